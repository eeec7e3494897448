import Derived.Test.YtgnloodmbgdgdaaGreatFB08
import Derived.Maps.AppendAt
import Derived.Test.YtgnloodmbgdgdaaGreatFB01
import Derived.Test.YtgnloodmbgdgdaaGreatFB09
namespace Go.Proofs.YtgnloodmbgdgdaaGreat
open Go.RowKit Go.Shelf
def Far (F : Nat → Prop) (v : Value) : Prop := ∀ g, v.ownBlock = some g → ¬ F g
def KeepF (F : Nat → Prop) (w w' : World) : Prop := w.heap.size ≤ w'.heap.size ∧ ∀ k, F k → k < w.heap.size → w'.heap[k]? = w.heap[k]?
theorem KeepF.refl (F : Nat → Prop) (w : World) : KeepF F w w := ⟨Nat.le_refl _, fun _ _ _ => rfl⟩
theorem KeepF.trans {F : Nat → Prop} {a b c : World} (h : KeepF F a b) (k : KeepF F b c) : KeepF F a c :=
 ⟨Nat.le_trans h.1 k.1, fun j hj hl => (k.2 j hj (Nat.lt_of_lt_of_le hl h.1)).trans (h.2 j hj hl)⟩
theorem KeepF.mono {F G : Nat → Prop} {a b : World} (h : KeepF F a b) (hg : ∀ k, G k → F k) : KeepF G a b := ⟨h.1, fun k hk => h.2 k (hg k hk)⟩
theorem KeepF.of_below {F : Nat → Prop} {a b : World} (h : Below a.heap.size a b) : KeepF F a b := ⟨h.size, fun k _ hl => h.block k hl⟩
theorem KeepF.set {F : Nat → Prop} {a b : World} {p o : Nat} {v : Value} (h : KeepF F a b) (hp : ¬ F p) : KeepF F a (b.setCell ⟨p, o, none⟩ v) :=
 ⟨by rw [World.size_setCell]; exact h.1, fun k hk hl => (Below.heap_setCell _ _ _ _ (fun (e : k = p) => hp (e ▸ hk))).trans (h.2 k hk hl)⟩
theorem BoxL.keepF {W w1 : World} {N : Nat} {vs : List Value} {F : Nat → Prop} (h : BoxL N vs W) (hF : F N) (hb : KeepF F W w1) : BoxL N vs w1 := by
 have hk := hb.2 N hF h.1
 refine ⟨Nat.lt_of_lt_of_le h.1 hb.1, fun k x hx => ?_⟩
 obtain ⟨h1, h2⟩ := h.2 k x hx
 exact ⟨(cell_of_block hk k).trans h1, by rw [← h2]; unfold World.frozen?; simp only [hk]⟩
def WrF (F : Nat → Prop) (p B : Nat) (w : World) (zs : List Int) : Prop :=
 ∃ v T, p < B ∧ B ≤ w.heap.size ∧ w.heap[p]? = some (.cells #[v] T (0, 0)) ∧ Own .u8 5 B w v zs ∧ ¬ F p ∧ Far F v
theorem WrF.wr {F : Nat → Prop} {p B : Nat} {w : World} {zs : List Int} (h : WrF F p B w zs) : Wr p B w zs := by
 obtain ⟨v, T, h1, h2, h3, h4, _⟩ := h
 exact ⟨v, T, h1, h2, h3, h4⟩
theorem WrF.open {F : Nat → Prop} {p B : Nat} {w : World} {zs : List Int} (h : WrF F p B w zs) :
  ∃ a n c, w.cell? ⟨p, 0, none⟩ = some (.slice a n c) ∧ w.frozen? ⟨p, 0, none⟩ = false ∧ Hid (n = zs.length) ∧ Hid (Own .u8 5 B w (.slice a n c) zs) ∧ Hid (¬ F p ∧ Far F (.slice a n c)) := by
 obtain ⟨v, T, hp, hB, hb, hO, hF⟩ := h
 obtain ⟨a, n, c, rfl, hn, hO⟩ := hO.slice
 exact ⟨a, n, c, cell_of_one hb, free_of_one hb, hn, hO, hF⟩
theorem WrF.put {F : Nat → Prop} {p B : Nat} {w w' : World} {zs ys : List Int} {v : Value} (h : WrF F p B w zs) (hB : Below B w w') (hO : Own .u8 5 B w' v ys) (hv : Far F v) : WrF F p B (w'.setCell ⟨p, 0, none⟩ v) ys := by
 obtain ⟨v0, T0, h1, h2, h3, h4, hp, _⟩ := h
 obtain ⟨v2, T, k1, k2, k3, k4⟩ := Wr.put ⟨v0, T0, h1, h2, h3, h4⟩ hB hO
 obtain ⟨u, T', -, -, e, -⟩ := (⟨v0, T0, h1, h2, h3, h4⟩ : Wr p B w zs)
 have hc := cell_of_one k3
 have hl : p < w'.heap.size := by have := hB.size; omega
 have e2 : (w'.setCell ⟨p, 0, none⟩ v).heap[p]? = some (.cells #[v] T0 (0, 0)) := one_setCell ((hB.block p h1).trans h3)
 rw [e2] at k3
 injection k3 with k3
 injection k3 with k3
 injection k3 with k3
 simp only [List.cons.injEq, and_true] at k3
 subst k3
 exact ⟨v, T0, k1, k2, e2, k4, hp, hv⟩
theorem WrF.new (w : World) (T : TypeId) {F : Nat → Prop} (hF : ∀ k, F k → k < w.heap.size) : WrF F w.heap.size (w.heap.size + 1) (w.alloc (.cells #[.slice none 0 0] T)) [] :=
 ⟨_, T, Nat.lt_succ_self _, by simp, World.alloc_heap_new w _, World.ownsRow_nil _ _ _ _, fun h => by have := hF _ h; omega, fun g hg => by cases hg⟩
theorem WrF.under {F : Nat → Prop} {p B : Nat} {w : World} {zs : List Int} (h : WrF F p B w zs) (o : Obj) : WrF (fun k => F k ∨ k = w.heap.size) p B (w.alloc o) zs := by
 obtain ⟨v, T, h1, h2, h3, h4, hp, hv⟩ := h
 obtain ⟨v2, T2, k1, k2, k3, k4⟩ := Wr.below (⟨v, T, h1, h2, h3, h4⟩ : Wr p B w zs) ((Below.refl _ _).alloc (Nat.le_refl _) o)
 have hl : p < w.heap.size := (Array.getElem?_eq_some_iff.1 h3).1
 rw [Below.heap_alloc _ _ _ hl, h3] at k3
 injection k3 with k3
 injection k3 with k3
 injection k3 with k3
 simp only [List.cons.injEq, and_true] at k3
 subst k3
 refine ⟨v, T, k1, k2, (Below.heap_alloc _ _ _ hl).trans h3, k4, fun h => ?_, fun g hg hFg => ?_⟩
 ·rcases h with h | h
  ·exact hp h
  ·omega
 ·rcases hFg with h | h
  ·exact hv g hg h
  ·have := (World.ownsRow.lt h4 g hg).2
   omega
theorem WrF.mono {F G : Nat → Prop} {p B : Nat} {w : World} {zs : List Int} (h : WrF F p B w zs) (hg : ∀ k, G k → F k) : WrF G p B w zs := by
 obtain ⟨v, T, h1, h2, h3, h4, hp, hv⟩ := h
 exact ⟨v, T, h1, h2, h3, h4, fun h => hp (hg _ h), fun g e h => hv g e (hg _ h)⟩
theorem WrF.below {F : Nat → Prop} {p B : Nat} {w w' : World} {zs : List Int} (h : WrF F p B w zs) (hB : Below w.heap.size w w') : WrF F p B w' zs := by
 obtain ⟨v, T, h1, h2, h3, h4, hp, hv⟩ := h
 obtain ⟨v2, T2, k1, k2, k3, k4⟩ := Wr.below (⟨v, T, h1, h2, h3, h4⟩ : Wr p B w zs) hB
 have hl : p < w.heap.size := (Array.getElem?_eq_some_iff.1 h3).1
 rw [hB.block p hl, h3] at k3
 injection k3 with k3
 injection k3 with k3
 injection k3 with k3
 simp only [List.cons.injEq, and_true] at k3
 subst k3
 exact ⟨v, T, k1, k2, (hB.block p hl).trans h3, k4, hp, hv⟩
end Go.Proofs.YtgnloodmbgdgdaaGreat
namespace Go.Proofs.YtgnloodmbgdgdaaGreat
open Go.RowKit Go.Shelf
def ClO {α : Type} (R : RowOf α) (E : TypeId) (xs : List α) (W : World) (e : Ending) (w' : World) : Prop :=
 ∃ a n c, e = .returned (.slice a n c) ∧ Hid (ROwn R E W.heap.size w' (.slice a n c) xs) ∧ Hid (Below W.heap.size W w')
theorem RFl.since' {α : Type} {R : RowOf α} {w w' : World} {sv : Value} {ns : List α} (h : RFl R w sv ns) (hs : Since w w') : RFl R w' sv ns := by
 rcases h with h | ⟨b, off, cap, e, hc⟩
 ·exact .inl h
 ·exact .inr ⟨b, off, cap, e, fun j u hu => Since.cell hs (hc j u hu)⟩
theorem rfl_shape {α : Type} {R : RowOf α} {w : World} {sv : Value} {ns : List α} (h : RFl R w sv ns) : (sv = .slice none 0 0 ∧ ns = []) ∨ ∃ x n c, sv = .slice (some x) n c := by
 rcases h with ⟨he | ⟨x, c, he⟩, hn⟩ | ⟨b, off, cap, e, -⟩
 ·exact .inl ⟨he, hn⟩
 ·exact .inr ⟨x, 0, c, he⟩
 ·exact .inr ⟨_, _, _, e⟩
end Go.Proofs.YtgnloodmbgdgdaaGreat
