/- What Text, Raw, Ints, End of wire.Reader return, and Read. -/
import Derived.Test.YtelhpndlejommaaGreatRead2
namespace Go.Proofs.YtelhpndlejommaaGreat
open Go.RowKit Go.Shelf



theorem rLen_le {l : List Int} (hb : Hm.Byt l) (e : Int) : (Hm.rLen l e).1 ≤ (Hm.rLen l e).2.1.length ∧ (Hm.rLen l e).2.1.length ≤ l.length ∧ Hm.Byt (Hm.rLen l e).2.1 := by
  have h := Hm.rU_left hb e
  unfold Hm.rLen
  split
  · exact ⟨Nat.le_refl _, by simp, Hm.byt_nil⟩
  · exact ⟨by omega, h.2, h.1⟩

/-- The slice of Took can be read. -/
theorem took_els {p d : Nat} {w : World} {sv : Value} {t : List Int} (h : (Emp sv ∧ t = []) ∨ (p ≠ d ∧ d < w.heap.size ∧ Elems .u8 d w sv t)) : Els .u8 w sv t := by
  rcases h with h | ⟨_, hd, h | ⟨off, cap, rfl, hl, hc⟩⟩
  · exact .inl h
  · exact .inl h
  · exact .inr ⟨d, off, cap, hd, rfl, hl, hc⟩


/-- What a call that makes a slice of the reader's values leaves. -/
def MakesR (k : IntKind) (E : TypeId) (p d : Nat) (zs l : List Int) (e : Int) (w : World) (x : Ending) (w' : World) : Prop :=
  ∃ a n cap, x = .returned (.slice a n cap) ∧ Hid (n = zs.length) ∧ Hid (Own k E w.heap.size w' (.slice a n cap) zs) ∧ Hid (Rd p d w' l e) ∧ Hid (w.grownBy w' (some p))

theorem own_baseR {k : IntKind} {E : TypeId} {B B' : Nat} {w : World} {sv : Value} {zs : List Int} (h : Own k E B w sv zs) (hB : B' ≤ B) : Own k E B' w sv zs := by
  obtain ⟨hx, hv | ⟨g, cap, cur, hv, hg, hr⟩⟩ := h
  · exact ⟨hx, .inl hv⟩
  · exact ⟨hx, .inr ⟨g, cap, cur, hv, by omega, hr⟩⟩

theorem makesR_of {k : IntKind} {E : TypeId} {p d : Nat} {zs l : List Int} {e : Int} {w w' : World} {v : Value} (h : Own k E w.heap.size w' v zs) (hR : Rd p d w' l e) (hB : w.grownBy w' (some p)) : MakesR k E p d zs l e w (.returned v) w' := by
  obtain ⟨a, cap, rfl⟩ := h.shape
  exact ⟨a, _, cap, rfl, rfl, h, hR, hB⟩


theorem own_cells {k : IntKind} {E : TypeId} {B g n c : Nat} {w : World} {zs : List Int} (h : Own k E B w (.slice (some ⟨g, 0, none⟩) n c) zs) (hn : n = zs.length) (j : Nat) (hj : j < n) :
    w.cell? ⟨g, j, none⟩ = some (.int k (zs[j]?.getD 0)) ∧ w.frozen? ⟨g, j, none⟩ = false := by
  obtain ⟨g2, he, _, _, h1, h2⟩ := h.open hn (by omega)
  cases he
  exact ⟨h1 j hj, h2 j⟩

theorem grown_later {p g o : Nat} {a b : World} {v : Value} (h : a.grownBy b (some p)) (hg : a.heap.size ≤ g) : a.grownBy (b.setCell ⟨g, o, none⟩ v) (some p) :=
  ⟨h.os, h.tape, h.output, by simpa [World.setCell] using h.size, fun k hk hr => (Below.heap_setCell _ _ _ _ (by show k ≠ g; omega)).trans (h.block k hk hr)⟩

theorem set_mid (xs : List Int) (k z : Nat) (v : Int) (hx : xs.length = k) (hk : k < z) : (xs ++ List.replicate (z - k) 0).set k v = (xs ++ [v]) ++ List.replicate (z - (k + 1)) 0 := by
  subst hx
  have e : z - xs.length = (z - (xs.length + 1)) + 1 := by omega
  rw [e, List.replicate_succ, List.set_append_right _ _ (Nat.le_refl _), Nat.sub_self, List.set_cons_zero, List.append_assoc]
  rfl

theorem zeros_list (n : Nat) : (madeCells #[.int .i64 0] (n * 1)).toList = (List.replicate n 0).map (Value.int .i64) := by
  apply List.ext_getElem
  · simp [madeCells]
  · intro i h1 h2
    simp [madeCells, Nat.mod_one]

/-- Behind a make of n numbers. -/
theorem own_made {B n : Nat} {w : World} {g : Nat} {E : TypeId} (h : w.ownsRow B E 1 (.slice (some ⟨g, 0, none⟩) n n) n (madeCells #[.int .i64 0] (n * 1)).toList) : Own .i64 E B w (.slice (some ⟨g, 0, none⟩) n n) (List.replicate n 0) := by
  unfold Own
  rw [List.length_replicate, ← zeros_list]
  exact h



/-- What Read leaves: a reader of a copy. -/
def Reads (zs : List Int) (w : World) (x : Ending) (w' : World) : Prop :=
  ∃ p d, x = .returned (.pointer (some ⟨p, 0, none⟩)) ∧ w.heap.size ≤ p ∧ w.heap.size ≤ d ∧ d < w'.heap.size ∧ Hid (Rd p d w' zs 0) ∧ Hid (Below w.heap.size w w')

theorem reads_mk {E T : TypeId} {w w1 : World} {a : Option Addr} {n c : Nat} {zs : List Int} (hO : Own .u8 E w.heap.size w1 (.slice a n c) zs) (hB : Below w.heap.size w w1) :
    Reads zs w (.returned (.pointer (some ⟨w1.heap.size, 0, none⟩))) (w1.alloc (.cells #[.slice a n c, .int .i64 0] T)) := by
  have hs := hB.size
  have hB2 : Below w.heap.size w (w1.alloc (.cells #[.slice a n c, .int .i64 0] T)) := hB.alloc hs _
  have hnew := World.alloc_heap_new w1 (.cells #[.slice a n c, .int .i64 0] T)
  by_cases h0 : Emp (.slice a n c) ∧ zs = []
  · exact ⟨w1.heap.size, w1.heap.size, rfl, hs, hs, by simp, ⟨_, T, hnew, .inl h0⟩, hB2⟩
  · have hO' := hO
    obtain ⟨hx, ⟨hv, hn⟩ | ⟨g, cap, cur, hv, hg, hc, hcap, _⟩⟩ := hO
    · exact absurd ⟨.inl hv, List.eq_nil_of_length_eq_zero hn⟩ h0
    · cases hv
      have hlt : g < w1.heap.size := (Array.getElem?_eq_some_iff.1 hc).1
      refine ⟨w1.heap.size, g, rfl, hs, hg, by simp; omega, ⟨_, T, hnew, .inr ⟨by omega, by simp; omega, .inr ⟨0, _, rfl, hcap, ?_⟩⟩⟩, hB2⟩
      intro j hj
      rw [Nat.zero_add]
      exact cell_alloc_l _ (own_cells hO' rfl j hj).1


end Go.Proofs.YtelhpndlejommaaGreat
