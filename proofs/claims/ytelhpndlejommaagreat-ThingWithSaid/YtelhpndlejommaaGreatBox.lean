/- Boxes of ratios that lie while calls go on. -/
import Derived.Test.YtelhpndlejommaaGreatRef03
namespace Go.Proofs.YtelhpndlejommaaGreat
open Go.RowKit Go.Shelf

theorem Since.alloc {wb W : World} (h : Since wb W) (o : Obj) : Since wb (W.alloc o) := Below.alloc h h.size o

theorem Since.adrew (w : World) (o : Obj) : Since w (w.alloc o).drew := Below.drew (Since.alloc (Below.refl _ _) o)

/-- The box of a ratio. -/
def BoxAt (N : Nat) (a b : Value) (w1 : World) : Prop := w1.cell? ⟨N, 0, none⟩ = some a ∧ w1.cell? ⟨N, 1, none⟩ = some b ∧ w1.frozen? ⟨N, 0, none⟩ = false ∧ w1.frozen? ⟨N, 1, none⟩ = false ∧ N < w1.heap.size

theorem BoxAt.new {w w1 : World} {a b : Value} {t : TypeId} (hb : Below (w.alloc (.cells #[a, b] t)).heap.size (w.alloc (.cells #[a, b] t)) w1) : BoxAt w.heap.size a b w1 := box_r hb

theorem BoxAt.newd {w w1 : World} {a b : Value} {t : TypeId} (hb : Below (w.alloc (.cells #[a, b] t)).drew.heap.size (w.alloc (.cells #[a, b] t)).drew w1) : BoxAt w.heap.size a b w1 := box_r (((Below.refl _ _).drew).trans hb)

theorem BoxAt.keep {W w1 : World} {N : Nat} {a b : Value} (h : BoxAt N a b W) (hb : Below W.heap.size W w1) : BoxAt N a b w1 :=
  ⟨(hb.cell (p := ⟨N, 0, none⟩) h.2.2.2.2).trans h.1, (hb.cell (p := ⟨N, 1, none⟩) h.2.2.2.2).trans h.2.1, (hb.frozen (p := ⟨N, 0, none⟩) h.2.2.2.2).trans h.2.2.1, (hb.frozen (p := ⟨N, 1, none⟩) h.2.2.2.2).trans h.2.2.2.1, Nat.lt_of_lt_of_le h.2.2.2.2 hb.size⟩

theorem BoxAt.under {W : World} {N : Nat} {a b : Value} (h : BoxAt N a b W) (o : Obj) : BoxAt N a b (W.alloc o) := h.keep ((Below.refl _ _).alloc (Nat.le_refl _) o)

theorem BoxAt.made (w : World) (a b : Value) (t : TypeId) : BoxAt w.heap.size a b (w.alloc (.cells #[a, b] t)) := BoxAt.new (Below.refl _ _)

/-- What the recursion leaves: the box of its result, and its error. -/
def CutR (X : World) (p q k : Int) (s8 s9 : Value) (wx : World) : Prop := ∃ N : Nat, s8 = .pointer (some ⟨N, 0, none⟩) ∧ s9 = .int .i64 k ∧ BoxAt N (.int .i64 p) (.int .i64 q) wx ∧ X.heap.size ≤ N ∧ Below X.heap.size X wx

theorem CutR.alloc {X w2 w' : World} {p q k : Int} (t : TypeId) (hX : Below X.heap.size X w2) (hB : Since w2 w') : CutR X p q k (.pointer (some ⟨w'.heap.size, 0, none⟩)) (.int .i64 k) (w'.alloc (.cells #[.int .i64 p, .int .i64 q] t)) := by
  obtain ⟨c0, c1, f0, f1⟩ := cell_new2 w' (.int .i64 p) (.int .i64 q) t
  have h := hX.trans (Below.mono hB hX.size)
  exact ⟨_, rfl, rfl, ⟨c0, c1, f0, f1, by simp⟩, h.size, h.alloc h.size _⟩

theorem CutR.store {X w2 w' : World} {p q k : Int} {N : Nat} {a b : Value} (hX : Below X.heap.size X w2) (hB : Since w2 w') (h : BoxAt N a b w') (hN : X.heap.size ≤ N) : CutR X p q k (.pointer (some ⟨N, 0, none⟩)) (.int .i64 k) ((w'.setCell ⟨N, 0, none⟩ (.int .i64 p)).setCell ⟨N, 1, none⟩ (.int .i64 q)) := by
  have h2 := hX.trans (Below.mono hB hX.size)
  obtain ⟨c0, c1, f0, f1, hz⟩ := h
  refine ⟨N, rfl, rfl, ⟨?_, ?_, ?_, ?_, ?_⟩, hN, (h2.setCell (p := ⟨N, 0, none⟩) hN _).setCell (p := ⟨N, 1, none⟩) hN _⟩
  · exact (World.cell?_setCell_other _ ⟨N, 1, none⟩ ⟨N, 0, none⟩ _ (by simp)).trans (World.cell?_setCell_same _ _ _ c0)
  · exact World.cell?_setCell_same _ _ _ ((World.cell?_setCell_other _ ⟨N, 0, none⟩ ⟨N, 1, none⟩ _ (by simp)).trans c1)
  · rw [World.frozen?_setCell, World.frozen?_setCell]
    exact f0
  · rw [World.frozen?_setCell, World.frozen?_setCell]
    exact f1
  · exact Nat.lt_of_lt_of_le hz (((Below.refl N w').setCell (p := ⟨N, 0, none⟩) (Nat.le_refl _) _).setCell (p := ⟨N, 1, none⟩) (Nat.le_refl _) _).size

end Go.Proofs.YtelhpndlejommaaGreat
