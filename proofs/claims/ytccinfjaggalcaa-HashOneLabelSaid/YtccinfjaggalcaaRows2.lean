/- A slice of the call's own, opened, stored into and read. -/
import Derived.Test.YtccinfjaggalcaaRows1
import Derived.Test.YtccinfjaggalcaaLawSum
import Derived.Test.YtccinfjaggalcaaMathB
namespace Go.Proofs.Ytccinfjaggalcaa
open Go.RowKit Go.Shelf

theorem Own.slice {k : IntKind} {E : TypeId} {B : Nat} {w : World} {v : Value} {zs : List Int} (h : Own k E B w v zs) :
    ∃ a n c, v = .slice a n c ∧ Hid (n = zs.length) ∧ Hid (Own k E B w (.slice a n c) zs) := by
  obtain ⟨a, c, rfl⟩ := h.shape
  exact ⟨a, _, c, rfl, rfl, h⟩

theorem Own.open {k : IntKind} {E : TypeId} {B : Nat} {w : World} {a : Option Addr} {n c : Nat} {zs : List Int} (h : Own k E B w (.slice a n c) zs) (hn : n = zs.length) (h0 : 0 < n) :
    ∃ g, a = some ⟨g, 0, none⟩ ∧ B ≤ g ∧ g < w.heap.size ∧ (∀ j, j < n → w.cell? ⟨g, j, none⟩ = some (.int k (zs[j]?.getD 0))) ∧ ∀ j, w.frozen? ⟨g, j, none⟩ = false := by
  subst hn
  have h' := h
  obtain ⟨_, ⟨hv, hz⟩ | ⟨g, cap, cur, hv, hg, hc, _⟩⟩ := h'
  · omega
  · cases hv
    refine ⟨g, rfl, hg, (Array.getElem?_eq_some_iff.1 hc).1, fun j hj => ?_, fun j => ?_⟩
    · have e := World.ownsRow.cellAt h j (by omega)
      rw [e, List.getElem?_map, List.getElem?_eq_getElem hj]
      rfl
    · exact World.ownsRow.frozenAt h j

theorem Own.set {k : IntKind} {E : TypeId} {B : Nat} {w : World} {g n c : Nat} {zs : List Int} (h : Own k E B w (.slice (some ⟨g, 0, none⟩) n c) zs) (hn : n = zs.length) (j : Nat) (v : Int) :
    Own k E B (w.setCell ⟨g, j, none⟩ (.int k v)) (.slice (some ⟨g, 0, none⟩) n c) (zs.set j v) := by
  subst hn
  have := (World.ownsRow.stored h j (.int k v)).1
  unfold Own
  rw [List.length_set, List.map_set]
  exact this

theorem xor_u8 (a b : Int) : 0 ≤ bits .xor .u8 a b ∧ bits .xor .u8 a b < 256 := by
  show 0 ≤ IntKind.u8.wrap _ ∧ IntKind.u8.wrap _ < 256
  rw [IntKind.wrap_u8']
  omega

theorem byt_set {zs : List Int} (h : Hm.Byt zs) (k : Nat) (v : Int) (hv : 0 ≤ v ∧ v < 256) : Hm.Byt (zs.set k v) := fun z hz => by
  rcases List.mem_or_eq_of_mem_set hz with h1 | rfl
  · exact h z h1
  · exact hv

theorem around_nat (a : Int) (n : Nat) (h : 0 < n) : ∃ k : Nat, aroundI a n = (k : Int) ∧ k < n := by
  have := aroundI_range a n (by omega)
  exact ⟨(aroundI a n).toNat, by omega, by omega⟩

end Go.Proofs.Ytccinfjaggalcaa
