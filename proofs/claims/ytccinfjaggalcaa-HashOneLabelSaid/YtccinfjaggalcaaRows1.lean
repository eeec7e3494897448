/- An argument that is a slice of integers, as the walk reads it. -/
import Derived.Test.YtccinfjaggalcaaRefB
namespace Go.Proofs.Ytccinfjaggalcaa
open Go.RowKit Go.Shelf

/-- As the frame of a law's proof tells of a slice of integers that came in. -/
def Came (k : IntKind) (w : World) (a : Option Addr) (len cap : Nat) (zs : List Int) : Prop :=
  (a = none ∧ len = 0 ∧ cap = 0 ∧ zs = []) ∨
  ∃ x, a = some x ∧ len ≤ cap ∧ cap ≤ maxLen ∧ zs.length = cap ∧ (∀ i, i < zs.length → w.cell? (x.add i) = some (.int k (zs.getD i 0))) ∧ ∀ n ∈ zs, (Lit.int k n).wf = true

theorem block_there {w : World} {a : Addr} {v : Value} (h : w.cell? a = some v) : a.block < w.heap.size := by
  unfold World.cell? at h
  split at h
  · next hg => exact (Array.getElem?_eq_some_iff.1 hg).1
  · cases h

theorem Came.els {k : IntKind} {w : World} {a : Option Addr} {len cap : Nat} {zs : List Int} (h : Came k w a len cap zs) : Els k w (.slice a len cap) (zs.take len) := by
  rcases h with ⟨rfl, rfl, rfl, rfl⟩ | ⟨x, rfl, hl, _, hz, hc, _⟩
  · exact .inl ⟨.inl rfl, rfl⟩
  · by_cases h0 : len = 0
    · subst h0
      exact .inl ⟨.inr ⟨x, cap, rfl⟩, rfl⟩
    · have h1 := hc 0 (by omega)
      have h1' : w.cell? x = some (.int k (zs.getD 0 0)) := by simpa [Addr.add] using h1
      have hb := block_there h1'
      have hs : x.spot = none := by
        unfold World.cell? at h1'
        split at h1'
        · split at h1'
          · cases h1'
          · next hs => simpa using hs
        · cases h1'
      have hlen : (zs.take len).length = len := by rw [List.length_take]; omega
      refine .inr ⟨x.block, x.off, cap, hb, ?_, by omega, ?_⟩
      · rw [hlen, ← hs]
      · intro j hj
        rw [hlen] at hj
        have h2 := hc j (by omega)
        have e : x.add j = ⟨x.block, x.off + j, none⟩ := by
          by_cases h : j = 0
          · subst h
            simp [Addr.add]
            rw [← hs]
          · simp [Addr.add, h]
        rw [e] at h2
        rw [h2, List.getElem?_take_of_lt hj, List.getD_eq_getElem?_getD]

theorem Came.cap {k : IntKind} {w : World} {a : Option Addr} {len cap : Nat} {zs : List Int} (h : Came k w a len cap zs) : ∀ b l c, Value.slice a len cap = .slice b l c → c ≤ maxLen := by
  rintro b l c h2
  cases h2
  rcases h with ⟨rfl, rfl, rfl, rfl⟩ | ⟨x, rfl, hl, hm, _⟩
  · exact Nat.zero_le _
  · exact hm

theorem Came.wf {k : IntKind} {w : World} {a : Option Addr} {len cap : Nat} {zs : List Int} (h : Came k w a len cap zs) : ∀ z ∈ zs, (Lit.int k z).wf = true := by
  rcases h with ⟨rfl, rfl, rfl, rfl⟩ | ⟨x, rfl, hl, _, hz, hc, hw⟩
  · intro z hz
    simp at hz
  · exact hw

theorem Came.byt {w : World} {a : Option Addr} {len cap : Nat} {zs : List Int} (h : Came .u8 w a len cap zs) : Hm.Byt zs := by
  rcases h with ⟨rfl, rfl, rfl, rfl⟩ | ⟨x, rfl, hl, _, hz, hc, hw⟩
  · intro z hz
    simp at hz
  · intro z hz
    have := hw z hz
    have h2 : 0 ≤ z ∧ z ≤ 255 := by
      simpa [Lit.wf, IntKind.min, IntKind.max, IntKind.signed, IntKind.bits] using this
    omega

theorem Own.cap {k : IntKind} {E : TypeId} {B : Nat} {w : World} {sv : Value} {zs : List Int} (h : Own k E B w sv zs) : ∀ b l c, sv = .slice b l c → c ≤ maxLen := by
  rintro b l c rfl
  obtain ⟨_, ⟨h, _⟩ | ⟨g, cap, cur, h, _, _, _, hm, _⟩⟩ := h
  · cases h
    exact Nat.zero_le _
  · cases h
    exact hm
theorem Own.lt {k : IntKind} {E : TypeId} {B : Nat} {w : World} {sv : Value} {zs : List Int} (h : Own k E B w sv zs) : ∀ j, sv.ownBlock = some j → B ≤ j := fun j hj => (World.ownsRow.lt h j hj).1
theorem owns_below {w W : World} {B : Nat} {E : TypeId} {sz n : Nat} {v : Value} {xs : List Value} (h : w.ownsRow B E sz v n xs) (hB : Below w.heap.size w W) : W.ownsRow B E sz v n xs := by
  obtain ⟨hx, hv | ⟨g, cap, cur, hv, hg, hc, hr⟩⟩ := h
  · exact ⟨hx, .inl hv⟩
  · exact ⟨hx, .inr ⟨g, cap, cur, hv, hg, (hB.block g (Array.getElem?_eq_some_iff.1 hc).1).trans hc, hr⟩⟩
theorem Own.below {k : IntKind} {E : TypeId} {B : Nat} {w W : World} {sv : Value} {zs : List Int} (h : Own k E B w sv zs) (hB : Below w.heap.size w W) : Own k E B W sv zs := owns_below h hB
theorem Own.alloc {k : IntKind} {E : TypeId} {B : Nat} {w : World} {sv : Value} {zs : List Int} (h : Own k E B w sv zs) (o : Obj) : (w.alloc o).ownsRow B E 1 sv zs.length (zs.map (Value.int k)) := World.ownsRow.alloc h o
/-- An owned row behind one more element. -/
theorem Own.more {k : IntKind} {E : TypeId} {B : Nat} {w : World} {v : Value} {zs : List Int} {z : Int} (h : w.ownsRow B E 1 v (zs.length + 1) (zs.map (Value.int k) ++ [Value.int k z])) : Own k E B w v (zs ++ [z]) := by
  unfold Own
  rw [List.length_append, List.map_append]
  exact h

theorem bs_of (l : List UInt8) : Hm.bs { data := l.toArray } = l.map fun c => (c.toNat : Int) := rfl
end Go.Proofs.Ytccinfjaggalcaa
