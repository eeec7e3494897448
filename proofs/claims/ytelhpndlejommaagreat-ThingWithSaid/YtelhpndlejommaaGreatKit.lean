/- Slices, strings and memory of a call's own, over whatever program: what a law's walk wants to say of them. -/
import Derived.RangeFuncNested
import Derived.RangeFuncBound
import Derived.RangeFuncCalls
import Derived.RangeFuncLeaves
import Derived.Shelf.Abstract
import Derived.Shelf.RegionOpen
import Derived.WalkKit
import Derived.OwnWalk
import Derived.OwnWalkIn
import Derived.TacticsInMore
import Derived.LoopNIn
import Derived.LoopIn
import Derived.WalkSmall
import Derived.Lib.Hide
import Derived.Laws.AppendOwnNone
import Derived.Laws.IdiomStrings
import Derived.Laws.BytesArg
import Derived.Laws.Bits64
import Derived.Laws.Bits64b
import Derived.Laws.BitsAllLaws
import Derived.Deep.QuietTactic
import Derived.BigQuiet
import Derived.Deep.RegionHeld3
import Derived.Deep.RegionWith
namespace Go.Proofs.YtelhpndlejommaaGreat
open Go.RowKit

namespace Hm

/-- All are bytes. -/
def Byt (zs : List Int) : Prop := ∀ z ∈ zs, 0 ≤ z ∧ z < 256

theorem Byt.take {zs : List Int} (h : Byt zs) (k : Nat) : Byt (zs.take k) := fun z hz => h z (List.mem_of_mem_take hz)

theorem Byt.drop {zs : List Int} (h : Byt zs) (k : Nat) : Byt (zs.drop k) := fun z hz => h z (List.mem_of_mem_drop hz)

theorem Byt.at {zs : List Int} (h : Byt zs) (k : Nat) : 0 ≤ zs[k]?.getD 0 ∧ zs[k]?.getD 0 < 256 := by
  by_cases hk : k < zs.length
  · rw [List.getElem?_eq_getElem hk]; exact h _ (List.getElem_mem hk)
  · rw [List.getElem?_eq_none (by omega)]; simp

/-- What has come when k rounds are over. -/
def upto {α : Type} (f : Nat → α) (k : Nat) : List α := (List.range k).map f

theorem upto_succ {α : Type} (f : Nat → α) (k : Nat) : upto f (k + 1) = upto f k ++ [f k] := by simp [upto, List.range_succ]

theorem upto_length {α : Type} (f : Nat → α) (k : Nat) : (upto f k).length = k := by simp [upto]

theorem upto_all (ws : List Int) (f : Int → Int) : upto (fun j => f (ws[j]?.getD 0)) ws.length = ws.map f := by
  apply List.ext_getElem
  · simp [upto]
  · intro i h1 h2
    simp only [upto, List.length_map, List.length_range] at h1
    simp [upto, h1]

theorem upto_take {α : Type} (f : Nat → α) (k n : Nat) (h : k ≤ n) : upto f k <+: upto f n := by
  refine ⟨((List.range (n - k)).map (k + ·)).map f, ?_⟩
  obtain ⟨m, rfl⟩ := Nat.le.dest h
  simp [upto, List.range_add]

/-- The bytes of a string. -/
def bs (s : ByteArray) : List Int := s.data.toList.map fun c => (c.toNat : Int)

theorem bs_length (s : ByteArray) : (bs s).length = s.size := by rw [bs, List.length_map, Array.length_toList]; rfl

theorem bs_byt (s : ByteArray) : Byt (bs s) := by
  intro z hz
  obtain ⟨c, _, rfl⟩ := List.mem_map.1 hz
  have := c.toNat_lt
  omega

end Hm

theorem ret_int {k : IntKind} {a b : Int} (h : a = b) : Ending.returned (.int k a) = .returned (.int k b) := by rw [h]

/-- A slice of no elements. -/
def Emp (sv : Value) : Prop := sv = .slice none 0 0 ∨ ∃ x cap, sv = .slice (some x) 0 cap

theorem Emp.shape {sv : Value} : Emp sv → ∃ a cap, sv = .slice a 0 cap
  | .inl e => ⟨_, _, e⟩
  | .inr ⟨x, cap, e⟩ => ⟨some x, cap, e⟩

/-- The slice value sv holds the numbers zs of kind k, in block b; or there are none. -/
def Elems (k : IntKind) (b : Nat) (W : World) (sv : Value) (zs : List Int) : Prop :=
  (Emp sv ∧ zs = []) ∨ ∃ off cap, sv = .slice (some ⟨b, off, none⟩) zs.length cap ∧ zs.length ≤ cap ∧ ∀ j, j < zs.length → W.cell? ⟨b, off + j, none⟩ = some (.int k (zs[j]?.getD 0))

theorem cell_of_block {A B : World} {b : Nat} (h : B.heap[b]? = A.heap[b]?) (o : Nat) : B.cell? ⟨b, o, none⟩ = A.cell? ⟨b, o, none⟩ := by
  unfold World.cell?; rw [h]

theorem Elems.keep {k : IntKind} {b : Nat} {A B : World} (h : B.heap[b]? = A.heap[b]?) {sv : Value} {zs : List Int} : Elems k b A sv zs → Elems k b B sv zs
  | .inl e => .inl e
  | .inr ⟨off, cap, e, hl, hc⟩ => .inr ⟨off, cap, e, hl, fun j hj => (cell_of_block h _).trans (hc j hj)⟩

/-- Two blocks stay as they are. -/
def Keeps2 (b c : Nat) (A B : World) : Prop := B.heap[b]? = A.heap[b]? ∧ B.heap[c]? = A.heap[c]?

theorem Keeps2.refl (b c : Nat) (A : World) : Keeps2 b c A A := ⟨rfl, rfl⟩

theorem Keeps2.trans {b c : Nat} {A B C : World} (h : Keeps2 b c A B) (k : Keeps2 b c B C) : Keeps2 b c A C := ⟨k.1.trans h.1, k.2.trans h.2⟩

theorem ret_string {a b : ByteArray} (h : a = b) : Ending.returned (.string a) = .returned (.string b) := by rw [h]

theorem ret_bool {a b : Bool} (h : a = b) : Ending.returned (.bool a) = .returned (.bool b) := by rw [h]

theorem lists_eq {zs ys : List Int} (hl : zs.length = ys.length) (h : ∀ j, j < zs.length → zs[j]?.getD 0 = ys[j]?.getD 0) : zs = ys := by
  apply List.ext_getElem hl
  intro i h1 h2
  have := h i h1
  rw [List.getElem?_eq_getElem h1, List.getElem?_eq_getElem h2] at this
  exact this

/-- A string's bytes in a new row. -/
theorem elems_bytesRow (s : ByteArray) (cap b : Nat) (hcap : s.size ≤ cap) (W : World) (T : TypeId) (fz : Nat × Nat) (h : W.heap[b]? = some (.cells (bytesRow s cap) T fz)) :
    Elems .u8 b W (.slice (some ⟨b, 0, none⟩) s.size cap) (Hm.bs s) := by
  refine .inr ⟨0, cap, by rw [Hm.bs_length], by rw [Hm.bs_length]; exact hcap, ?_⟩
  intro j hj
  rw [Hm.bs_length] at hj
  have h2 := bytesRow_at s cap j hj
  have e : (Hm.bs s)[j]?.getD 0 = (s.data[j].toNat : Int) := by
    have : j < s.data.toList.length := by rw [Array.length_toList]; exact hj
    rw [Hm.bs, List.getElem?_map, List.getElem?_eq_getElem this]
    simp
  rw [e, ← h2]
  unfold World.cell?
  simp [h]

theorem heap_new (w : World) (o : Obj) : (w.alloc o).heap[w.heap.size]? = some o := World.alloc_heap_new w o

theorem heap_old {w : World} {k : Nat} {o : Obj} (o' : Obj) (h : w.heap[k]? = some o) : (w.alloc o').heap[k]? = some o := by
  rw [Below.heap_alloc _ _ _ (Array.getElem?_eq_some_iff.1 h).1]; exact h

theorem cell_of_box_l {W : World} {B : Nat} {v : Value} {t : TypeId} (h : W.heap[B]? = some (.cells #[v] t (0, 0))) : W.cell? ⟨B, 0, none⟩ = some v ∧ W.frozen? ⟨B, 0, none⟩ = false := by
  constructor <;> simp [World.cell?, World.frozen?, h]

theorem cell_new_l (W : World) (v : Value) (t : TypeId) : (W.alloc (.cells #[v] t)).cell? ⟨W.heap.size, 0, none⟩ = some v ∧ (W.alloc (.cells #[v] t)).frozen? ⟨W.heap.size, 0, none⟩ = false :=
  cell_of_box_l (World.alloc_heap_new W _)

theorem cell_alloc_l {W : World} {a : Addr} {v : Value} (o : Obj) (h : W.cell? a = some v) : (W.alloc o).cell? a = some v := cell_kept h (World.grownBy_alloc W o none) (fun r e => by cases e)

theorem frozen_alloc_l {W : World} {a : Addr} {v : Value} (o : Obj) (h : W.cell? a = some v) (hf : W.frozen? a = false) : (W.alloc o).frozen? a = false := (frozen_kept h (World.grownBy_alloc W o none) (fun r e => by cases e)).trans hf

theorem keeps2_putObj {b c l : Nat} {W : World} {o : Obj} (hb : b ≠ l) (hc : c ≠ l) : Keeps2 b c W (W.putObj l o) := by
  have h : ∀ k, k ≠ l → (W.putObj l o).heap[k]? = W.heap[k]? := fun k hk => by
    simp only [World.putObj]
    rw [Array.getElem?_setIfInBounds_ne (by omega)]
  exact ⟨h b hb, h c hc⟩

theorem keeps2_setCell {b c l o : Nat} {W : World} {v : Value} (hb : b ≠ l) (hc : c ≠ l) : Keeps2 b c W (W.setCell ⟨l, o, none⟩ v) :=
  ⟨Below.heap_setCell _ _ _ _ hb, Below.heap_setCell _ _ _ _ hc⟩

/-- A slice literal. -/
theorem elems_new (k : IntKind) (w : World) (T : TypeId) (zs : List Int) :
    Elems k w.heap.size (w.alloc (.cells (zs.map (Value.int k)).toArray T)) (.slice (some ⟨w.heap.size, 0, none⟩) zs.length zs.length) zs := by
  refine .inr ⟨0, zs.length, rfl, Nat.le_refl _, ?_⟩
  intro j hj
  have h := heap_new w (.cells (zs.map (Value.int k)).toArray T)
  have e : (zs.map (Value.int k)).toArray[j]? = some (Value.int k (zs[j]?.getD 0)) := by
    rw [List.getElem?_toArray, List.getElem?_map, List.getElem?_eq_getElem hj]
    rfl
  rw [Nat.zero_add, ← e]
  unfold World.cell?
  simp only [h]
  rfl

theorem below_new {w w1 : World} {o : Obj} (h : Below (w.alloc o).heap.size (w.alloc o) w1) : Below w.heap.size w w1 :=
  ((Below.refl _ w).alloc (Nat.le_refl _) o).trans (h.mono (by simp))

/-- A slice that can be read: it has no elements, or it leads to a row of numbers of kind k in a block that is there. -/
def Els (k : IntKind) (w : World) (sv : Value) (zs : List Int) : Prop :=
  (Emp sv ∧ zs = []) ∨ ∃ b off cap, b < w.heap.size ∧ sv = .slice (some ⟨b, off, none⟩) zs.length cap ∧ zs.length ≤ cap ∧ ∀ j, j < zs.length → w.cell? ⟨b, off + j, none⟩ = some (.int k (zs[j]?.getD 0))

theorem Els.below {k : IntKind} {w W : World} (h : Below w.heap.size w W) {sv : Value} {zs : List Int} : Els k w sv zs → Els k W sv zs
  | .inl e => .inl e
  | .inr ⟨b, off, cap, hb, e, hl, hc⟩ => .inr ⟨b, off, cap, Nat.lt_of_lt_of_le hb h.size, e, hl, fun j hj => (h.cell (p := ⟨b, off + j, none⟩) hb).trans (hc j hj)⟩

theorem Els.new (k : IntKind) (w : World) (T : TypeId) (zs : List Int) : Els k (w.alloc (.cells (zs.map (Value.int k)).toArray T)) (.slice (some ⟨w.heap.size, 0, none⟩) zs.length zs.length) zs := by
  rcases elems_new k w T zs with ⟨h, hz⟩ | ⟨off, cap, h, hl, hc⟩
  · exact .inl ⟨h, hz⟩
  · exact .inr ⟨w.heap.size, off, cap, by simp, h, hl, hc⟩

/-- A new slice, the call's own, that holds zs. -/
def Own (k : IntKind) (E : TypeId) (B : Nat) (w : World) (sv : Value) (zs : List Int) : Prop := w.ownsRow B E 1 sv zs.length (zs.map (Value.int k))

theorem Own.els {k : IntKind} {E : TypeId} {B : Nat} {w : World} {sv : Value} {zs : List Int} (h : Own k E B w sv zs) : Els k w sv zs := by
  obtain ⟨_, ⟨rfl, hz⟩ | ⟨g, cap, cur, rfl, _, hg, hcap, _, hsz, ht⟩⟩ := h
  · exact .inl ⟨.inl rfl, List.eq_nil_of_length_eq_zero hz⟩
  · refine .inr ⟨g, 0, cap, (Array.getElem?_eq_some_iff.1 hg).1, rfl, hcap, ?_⟩
    intro j hj
    have e : cur[j]? = some (Value.int k (zs[j]?.getD 0)) := by
      rw [← Array.getElem?_toList, ← List.getElem?_take_of_lt (show j < zs.length * 1 by omega), ht, List.getElem?_map, List.getElem?_eq_getElem hj]
      rfl
    rw [Nat.zero_add]
    unfold World.cell?
    simp only [hg]
    exact e

theorem Own.shape {k : IntKind} {E : TypeId} {B : Nat} {w : World} {sv : Value} {zs : List Int} (h : Own k E B w sv zs) : ∃ a cap, sv = .slice a zs.length cap := by
  obtain ⟨_, ⟨rfl, hz⟩ | ⟨g, cap, cur, rfl, _⟩⟩ := h
  · exact ⟨none, 0, by rw [hz]⟩
  · exact ⟨_, _, rfl⟩

/-- What a call that makes such a slice leaves. -/
def Makes (k : IntKind) (E : TypeId) (zs : List Int) (w : World) (e : Ending) (w' : World) : Prop :=
  ∃ a n cap, e = .returned (.slice a n cap) ∧ Hid (n = zs.length) ∧ Hid (Own k E w.heap.size w' (.slice a n cap) zs) ∧ Hid (Below w.heap.size w w')

theorem makes_of {k : IntKind} {E : TypeId} {zs : List Int} {w w' : World} {v : Value} (h : Own k E w.heap.size w' v zs) (hB : Below w.heap.size w w') : Makes k E zs w (.returned v) w' := by
  obtain ⟨a, cap, rfl⟩ := h.shape
  exact ⟨a, _, cap, rfl, rfl, h, hB⟩

theorem extract_all (s : ByteArray) (n : Nat) (h : s.size ≤ n) : s = s.extract 0 n := by
  apply ByteArray.ext
  rw [ByteArray.data_extract]
  apply Array.ext
  · simp; omega
  · intro i h1 h2; simp

theorem extract_size (s : ByteArray) (n : Nat) : (s.extract 0 n).size ≤ n := by
  rw [ByteArray.size_extract]; omega

theorem news_at {k : IntKind} {w : World} {b off m : Nat} {zs : List Int} (hm : m ≤ zs.length) (hc : ∀ j, j < zs.length → w.cell? ⟨b, off + j, none⟩ = some (.int k (zs[j]?.getD 0))) :
    ∀ j u, ((zs.take m).map (Value.int k))[j]? = some u → w.cell? ((⟨b, off, none⟩ : Addr).add j) = some u := by
  intro j u hu
  rw [List.getElem?_map] at hu
  obtain ⟨z, hz, rfl⟩ := Option.map_eq_some_iff.1 hu
  have hj := (List.getElem?_eq_some_iff.1 hz).1
  rw [List.length_take] at hj
  have h2 := hc j (by omega)
  rw [List.getElem?_take_of_lt (by omega)] at hz
  rw [hz] at h2
  have e : (⟨b, off, none⟩ : Addr).add j = ⟨b, off + j, none⟩ := by
    by_cases h : j = 0 <;> simp [Addr.add, h]
  rw [e]
  exact h2

theorem own_snoc {k : IntKind} {w : World} {B : Nat} {E : TypeId} {v : Value} {n : Nat} {f : Nat → Int}
    (h : w.ownsRow B E 1 v (n + 1) ((Hm.upto f n).map (Value.int k) ++ [Value.int k (f n)])) : w.ownsRow B E 1 v (n + 1) ((Hm.upto f (n + 1)).map (Value.int k)) := by
  rw [Hm.upto_succ, List.map_append]; exact h

theorem one_new (w : World) (v : Value) (t : TypeId) : ∀ j u, [v][j]? = some u → (w.alloc (.cells #[v] t)).cell? ((⟨w.heap.size, 0, none⟩ : Addr).add j) = some u := by
  intro j u hu
  match j with
  | 0 =>
    simp at hu
    subst hu
    simp [Addr.add]
  | j + 1 => simp at hu

theorem Els.shape {k : IntKind} {w : World} {sv : Value} {zs : List Int} (h : Els k w sv zs) : ∃ a cap, sv = .slice a zs.length cap := by
  rcases h with ⟨he, rfl⟩ | ⟨b, off, cap, hb, rfl, hl, hc⟩
  · exact he.shape
  · exact ⟨_, _, rfl⟩

theorem Els.at {k : IntKind} {w : World} {a : Option Addr} {n cap : Nat} {zs : List Int} (h : Els k w (.slice a n cap) zs) (j : Nat) (hj : j < n) :
    ∃ b off, a = some ⟨b, off, none⟩ ∧ w.cell? ⟨b, off + j, none⟩ = some (.int k (zs[j]?.getD 0)) := by
  rcases h with ⟨he, rfl⟩ | ⟨b, off, cap, hb, he, hl, hc⟩
  · obtain ⟨a, cap, he⟩ := he.shape
    cases he
    omega
  · cases he
    exact ⟨b, off, rfl, hc j hj⟩

theorem Els.len {k : IntKind} {w : World} {a : Option Addr} {n cap : Nat} {zs : List Int} (h : Els k w (.slice a n cap) zs) : n = zs.length := by
  obtain ⟨a, c, he⟩ := h.shape
  cases he
  rfl

/-- The bytes of a string, in a new row. -/
theorem bytes_world0 (w : World) (s : ByteArray) (cap : Nat) (T : TypeId) (fz : Nat × Nat) (hcap : s.size ≤ cap) (W : World)
    (hW : W = (w.alloc (.cells (bytesRow s cap) T fz)).drew) : Els .u8 W (.slice (some ⟨w.heap.size, 0, none⟩) s.size cap) (Hm.bs s) ∧ Below w.heap.size w W := by
  subst hW
  have hB : Below w.heap.size w (w.alloc (.cells (bytesRow s cap) T fz)).drew := ((Below.refl _ w).alloc (Nat.le_refl _) _).drew
  refine ⟨?_, hB⟩
  have h := elems_bytesRow s cap w.heap.size hcap (w.alloc (.cells (bytesRow s cap) T fz)).drew T fz (heap_new w _)
  rcases h with ⟨he, hz⟩ | ⟨off, c, he, hl, hc⟩
  · exact .inl ⟨he, hz⟩
  · exact .inr ⟨w.heap.size, off, c, by show _ < (w.alloc _).heap.size; simp, he, hl, hc⟩

theorem own_push {k : IntKind} {w : World} {B : Nat} {E : TypeId} {v : Value} {n : Nat} {f : Nat → Int} {z : Int}
    (h : w.ownsRow B E 1 v (n + 1) ((Hm.upto f n).map (Value.int k) ++ [Value.int k z])) : Own k E B w v (Hm.upto f n ++ [z]) := by
  unfold Own
  rw [List.length_append, Hm.upto_length, List.map_append]
  exact h

/-- As the frame of a law's proof tells of a slice of integers that came in. -/
def Came (k : IntKind) (w : World) (a : Option Addr) (len cap : Nat) (zs : List Int) : Prop :=
  (a = none ∧ len = 0 ∧ cap = 0 ∧ zs = []) ∨
  ∃ x, a = some x ∧ len ≤ cap ∧ cap ≤ maxLen ∧ zs.length = cap ∧ (∀ i, i < zs.length → w.cell? (x.add i) = some (.int k (zs.getD i 0))) ∧ ∀ n ∈ zs, (Lit.int k n).wf = true

theorem block_there {w : World} {a : Addr} {v : Value} (h : w.cell? a = some v) : a.block < w.heap.size := by
  unfold World.cell? at h
  split at h
  · next hg => exact (Array.getElem?_eq_some_iff.1 hg).1
  · cases h

theorem Came.els {k : IntKind} {w : World} {a : Option Addr} {len cap : Nat} {zs : List Int} (h : Came k w a len cap zs) : Els k w (.slice a len cap) (zs.take len) := by
  rcases h with ⟨rfl, rfl, rfl, rfl⟩ | ⟨x, rfl, hl, _, hz, hc, _⟩
  · exact .inl ⟨.inl rfl, rfl⟩
  · by_cases h0 : len = 0
    · subst h0
      exact .inl ⟨.inr ⟨x, cap, rfl⟩, rfl⟩
    · have h1 := hc 0 (by omega)
      have h1' : w.cell? x = some (.int k (zs.getD 0 0)) := by simpa [Addr.add] using h1
      have hb := block_there h1'
      have hs : x.spot = none := by
        unfold World.cell? at h1'
        split at h1'
        · split at h1'
          · cases h1'
          · next hs => simpa using hs
        · cases h1'
      have hlen : (zs.take len).length = len := by rw [List.length_take]; omega
      refine .inr ⟨x.block, x.off, cap, hb, ?_, by omega, ?_⟩
      · rw [hlen, ← hs]
      · intro j hj
        rw [hlen] at hj
        have h2 := hc j (by omega)
        have e : x.add j = ⟨x.block, x.off + j, none⟩ := by
          by_cases h : j = 0
          · subst h
            simp [Addr.add]
            rw [← hs]
          · simp [Addr.add, h]
        rw [e] at h2
        rw [h2, List.getElem?_take_of_lt hj, List.getD_eq_getElem?_getD]

theorem Came.cap {k : IntKind} {w : World} {a : Option Addr} {len cap : Nat} {zs : List Int} (h : Came k w a len cap zs) : ∀ b l c, Value.slice a len cap = .slice b l c → c ≤ maxLen := by
  rintro b l c h2
  cases h2
  rcases h with ⟨rfl, rfl, rfl, rfl⟩ | ⟨x, rfl, hl, hm, _⟩
  · exact Nat.zero_le _
  · exact hm

theorem Came.wf {k : IntKind} {w : World} {a : Option Addr} {len cap : Nat} {zs : List Int} (h : Came k w a len cap zs) : ∀ z ∈ zs, (Lit.int k z).wf = true := by
  rcases h with ⟨rfl, rfl, rfl, rfl⟩ | ⟨x, rfl, hl, _, hz, hc, hw⟩
  · intro z hz
    simp at hz
  · exact hw

theorem Came.byt {w : World} {a : Option Addr} {len cap : Nat} {zs : List Int} (h : Came .u8 w a len cap zs) : Hm.Byt zs := by
  rcases h with ⟨rfl, rfl, rfl, rfl⟩ | ⟨x, rfl, hl, _, hz, hc, hw⟩
  · intro z hz
    simp at hz
  · intro z hz
    have := hw z hz
    have h2 : 0 ≤ z ∧ z ≤ 255 := by
      simpa [Lit.wf, IntKind.min, IntKind.max, IntKind.signed, IntKind.bits] using this
    omega

theorem Own.cap {k : IntKind} {E : TypeId} {B : Nat} {w : World} {sv : Value} {zs : List Int} (h : Own k E B w sv zs) : ∀ b l c, sv = .slice b l c → c ≤ maxLen := by
  rintro b l c rfl
  obtain ⟨_, ⟨h, _⟩ | ⟨g, cap, cur, h, _, _, _, hm, _⟩⟩ := h
  · cases h
    exact Nat.zero_le _
  · cases h
    exact hm

theorem Own.lt {k : IntKind} {E : TypeId} {B : Nat} {w : World} {sv : Value} {zs : List Int} (h : Own k E B w sv zs) : ∀ j, sv.ownBlock = some j → B ≤ j := fun j hj => (World.ownsRow.lt h j hj).1

theorem owns_below {w W : World} {B : Nat} {E : TypeId} {sz n : Nat} {v : Value} {xs : List Value} (h : w.ownsRow B E sz v n xs) (hB : Below w.heap.size w W) : W.ownsRow B E sz v n xs := by
  obtain ⟨hx, hv | ⟨g, cap, cur, hv, hg, hc, hr⟩⟩ := h
  · exact ⟨hx, .inl hv⟩
  · exact ⟨hx, .inr ⟨g, cap, cur, hv, hg, (hB.block g (Array.getElem?_eq_some_iff.1 hc).1).trans hc, hr⟩⟩

theorem Own.below {k : IntKind} {E : TypeId} {B : Nat} {w W : World} {sv : Value} {zs : List Int} (h : Own k E B w sv zs) (hB : Below w.heap.size w W) : Own k E B W sv zs := owns_below h hB

theorem Own.alloc {k : IntKind} {E : TypeId} {B : Nat} {w : World} {sv : Value} {zs : List Int} (h : Own k E B w sv zs) (o : Obj) : (w.alloc o).ownsRow B E 1 sv zs.length (zs.map (Value.int k)) := World.ownsRow.alloc h o

/-- An owned row behind one more element. -/
theorem Own.more {k : IntKind} {E : TypeId} {B : Nat} {w : World} {v : Value} {zs : List Int} {z : Int} (h : w.ownsRow B E 1 v (zs.length + 1) (zs.map (Value.int k) ++ [Value.int k z])) : Own k E B w v (zs ++ [z]) := by
  unfold Own
  rw [List.length_append, List.map_append]
  exact h

theorem Own.slice {k : IntKind} {E : TypeId} {B : Nat} {w : World} {v : Value} {zs : List Int} (h : Own k E B w v zs) :
    ∃ a n c, v = .slice a n c ∧ Hid (n = zs.length) ∧ Hid (Own k E B w (.slice a n c) zs) := by
  obtain ⟨a, c, rfl⟩ := h.shape
  exact ⟨a, _, c, rfl, rfl, h⟩

theorem Own.open {k : IntKind} {E : TypeId} {B : Nat} {w : World} {a : Option Addr} {n c : Nat} {zs : List Int} (h : Own k E B w (.slice a n c) zs) (hn : n = zs.length) (h0 : 0 < n) :
    ∃ g, a = some ⟨g, 0, none⟩ ∧ B ≤ g ∧ g < w.heap.size ∧ (∀ j, j < n → w.cell? ⟨g, j, none⟩ = some (.int k (zs[j]?.getD 0))) ∧ ∀ j, w.frozen? ⟨g, j, none⟩ = false := by
  subst hn
  have h' := h
  obtain ⟨_, ⟨hv, hz⟩ | ⟨g, cap, cur, hv, hg, hc, _⟩⟩ := h'
  · omega
  · cases hv
    refine ⟨g, rfl, hg, (Array.getElem?_eq_some_iff.1 hc).1, fun j hj => ?_, fun j => ?_⟩
    · have e := World.ownsRow.cellAt h j (by omega)
      rw [e, List.getElem?_map, List.getElem?_eq_getElem hj]
      rfl
    · exact World.ownsRow.frozenAt h j

theorem Own.set {k : IntKind} {E : TypeId} {B : Nat} {w : World} {g n c : Nat} {zs : List Int} (h : Own k E B w (.slice (some ⟨g, 0, none⟩) n c) zs) (hn : n = zs.length) (j : Nat) (v : Int) :
    Own k E B (w.setCell ⟨g, j, none⟩ (.int k v)) (.slice (some ⟨g, 0, none⟩) n c) (zs.set j v) := by
  subst hn
  have := (World.ownsRow.stored h j (.int k v)).1
  unfold Own
  rw [List.length_set, List.map_set]
  exact this

theorem xor_u8 (a b : Int) : 0 ≤ bits .xor .u8 a b ∧ bits .xor .u8 a b < 256 := by
  show 0 ≤ IntKind.u8.wrap _ ∧ IntKind.u8.wrap _ < 256
  rw [IntKind.wrap_u8']
  omega

theorem byt_set {zs : List Int} (h : Hm.Byt zs) (k : Nat) (v : Int) (hv : 0 ≤ v ∧ v < 256) : Hm.Byt (zs.set k v) := fun z hz => by
  rcases List.mem_or_eq_of_mem_set hz with h1 | rfl
  · exact h z h1
  · exact hv

/-- Nothing that lay in wb has turned. -/
def Since (wb W : World) : Prop := Below wb.heap.size wb W

theorem Since.cell {wb W : World} (h : Since wb W) {p : Addr} {v : Value} (hv : wb.cell? p = some v) : W.cell? p = some v :=
  (Below.cell h (block_there hv)).trans hv

theorem Since.step {wb W W' : World} (h : Since wb W) (k : Below W.heap.size W W') : Since wb W' := Below.trans h (k.mono (Below.size h))

theorem bs_nums {xs : List Int} (h : Hm.Byt xs) : Hm.bs (strOfNums xs) = xs := by
  rw [Hm.bs, strOfNums_data, List.map_map]
  conv => rhs; rw [← List.map_id xs]
  apply List.map_congr_left
  intro z hz
  have := h z hz
  show ((UInt8.ofNat z.toNat).toNat : Int) = z
  rw [UInt8.toNat_ofNat']
  omega

theorem bs_append (a b : ByteArray) : Hm.bs (a ++ b) = Hm.bs a ++ Hm.bs b := by
  rw [Hm.bs, Hm.bs, Hm.bs, ByteArray.data_append, Array.toList_append, List.map_append]

theorem xor_same (a b : Int) (ha : 0 ≤ a ∧ a < 256) (hb : 0 ≤ b ∧ b < 256) : bits .xor .u8 a b = a ↔ b = 0 := by
  obtain ⟨A, rfl⟩ := Int.eq_ofNat_of_zero_le ha.1
  obtain ⟨B, rfl⟩ := Int.eq_ofNat_of_zero_le hb.1
  rw [u8_xor _ _ ha.1 ha.2 hb.1 hb.2]
  simp only [Int.toNat_natCast]
  constructor
  · intro h
    have h : A ^^^ B = A := by omega
    have h2 : A ^^^ (A ^^^ B) = A ^^^ A := by rw [h]
    rw [← Nat.xor_assoc, Nat.xor_self, Nat.zero_xor] at h2
    omega
  · intro h
    have h : B = 0 := by omega
    rw [h, Nat.xor_zero]

theorem u64_of_wf {a : Int} (h : (Lit.int .u64 a).wf = true) : IntKind.u64.wrap a = a := by
  have h2 : 0 ≤ a ∧ a ≤ 18446744073709551615 := by
    simpa [Lit.wf, IntKind.min, IntKind.max, IntKind.signed, IntKind.bits] using h
  exact IntWalk.u64_in a h2

theorem small_size (s : ByteArray) (n : Nat) (hn : n ≤ 1000) : (s.extract 0 n).size ≤ 1000 := Nat.le_trans (extract_size s n) hn

theorem i64_of_wf {a : Int} (h : (Lit.int .i64 a).wf = true) : -9223372036854775808 ≤ a ∧ a ≤ 9223372036854775807 := by
  simpa [Lit.wf, IntKind.min, IntKind.max, IntKind.signed, IntKind.bits] using h
theorem u8_of_wf {a : Int} (h : (Lit.int .u8 a).wf = true) : 0 ≤ a ∧ a < 256 := by
  have : 0 ≤ a ∧ a ≤ 255 := by
    simpa [Lit.wf, IntKind.min, IntKind.max, IntKind.signed, IntKind.bits] using h
  omega

/-- One element appended to a slice of the call's own: the law at the operation. -/
theorem push_own {P : Program} {ops : Array Oper} {rest : List Oper} {o : Oper} {act : Act} {Q : Exit → Act → World → Prop} {w : World} (hgd : o.guard = none) (s x : Operand) (t : TypeId)
    (ho : o.op = .call { callee := .builtin .append, args := #[s, x], argTypes := #[t, t] }) (k : IntKind) (e : TypeId) (bytes : Nat) (ht : P.underlying t = some (.slice e))
    (info : (P.info? e).map (fun i => (i.zero, i.size, i.bytes)) = some (some (.int k 0), 1, bytes)) (hby : bytes ≤ 8) (B : Nat) (v : Value) (zs : List Int) (z : Int) (T : TypeId)
    (hs : act.eval s = v) (hx : act.eval x = .slice (some ⟨w.heap.size, 0, none⟩) 1 1) (hown : Own k e B w v zs) (hB : B ≤ w.heap.size) (hl : zs.length ≤ 1000000000000)
    (h : ∀ a n c w', Hid (n = zs.length + 1) → Hid (Own k e B w' (.slice a n c) (zs ++ [z])) → Hid (Below B w w') → wpList P ops Q rest (act.put o.dst (.slice a n c)) w') :
    wpList P ops Q (o :: rest) act (w.alloc (.cells #[.int k z] T)) := by
  obtain ⟨i0, hi, hz0, hz1, hz2⟩ := info_parts info
  refine wpList_append_own _ hgd s x t ho B e i0 (.int k 0) 1 bytes ht hi hz0 hz1 hz2 rfl (by decide) v zs.length _ hs (hown.alloc _) ⟨w.heap.size, 0, none⟩ 1 1 [.int k z] hx rfl (one_new _ _ _) (by simp [Value.oneCell']) (by unfold maxLen; omega) ?_ (by simp; omega) ?_
  · have : (zs.length + 1) * bytes ≤ (zs.length + 1) * 8 := Nat.mul_le_mul_left _ hby
    omega
  · intro v' w1 hown' hgrow _
    obtain ⟨a, n, c, rfl, hn, hO⟩ := Own.slice (Own.more hown')
    refine h a n c w1 ?_ hO (((Below.refl B w).alloc hB _).grown hgrow (by simp; omega) fun j hj => hown.lt j hj)
    have := hn.out
    rw [List.length_append] at this
    exact this

end Go.Proofs.YtelhpndlejommaaGreat
