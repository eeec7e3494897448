import Derived.RangeFuncNested
import Derived.RangeFuncBound
import Derived.RangeFuncCalls
import Derived.RangeFuncLeaves
import Derived.Shelf.Abstract
import Derived.Shelf.RegionOpen
import Derived.WalkKit
import Derived.OwnWalk
import Derived.OwnWalkIn
import Derived.TacticsInMore
import Derived.LoopNIn
import Derived.LoopIn
import Derived.WalkSmall
import Derived.Lib.Hide
import Derived.Laws.AppendOwnNone
import Derived.Laws.IdiomStrings
import Derived.Laws.BytesArg
import Derived.Laws.Bits64
import Derived.Laws.Bits64b
import Derived.Laws.BitsAllLaws
import Derived.Deep.QuietTactic
import Derived.BigQuiet
import Derived.Deep.RegionHeld3
import Derived.Deep.RegionWith
namespace Go.Proofs.YtgnloodmbgdgdaaGreat
open Go.RowKit
namespace Hm
def Byt (zs : List Int) : Prop := ∀ z ∈ zs, 0 ≤ z ∧ z < 256
theorem Byt.take {zs : List Int} (h : Byt zs) (k : Nat) : Byt (zs.take k) := fun z hz => h z (List.mem_of_mem_take hz)
theorem Byt.drop {zs : List Int} (h : Byt zs) (k : Nat) : Byt (zs.drop k) := fun z hz => h z (List.mem_of_mem_drop hz)
theorem Byt.at {zs : List Int} (h : Byt zs) (k : Nat) : 0 ≤ zs[k]?.getD 0 ∧ zs[k]?.getD 0 < 256 := by
 by_cases hk : k < zs.length
 ·rw [List.getElem?_eq_getElem hk]; exact h _ (List.getElem_mem hk)
 ·rw [List.getElem?_eq_none (by omega)]; simp
def bs (s : ByteArray) : List Int := s.data.toList.map fun c => (c.toNat : Int)
end Hm
theorem ret_int {k : IntKind} {a b : Int} (h : a = b) : Ending.returned (.int k a) = .returned (.int k b) := by rw [h]
def Emp (sv : Value) : Prop := sv = .slice none 0 0 ∨ ∃ x cap, sv = .slice (some x) 0 cap
theorem Emp.shape {sv : Value} : Emp sv → ∃ a cap, sv = .slice a 0 cap
 | .inl e => ⟨_, _, e⟩
 | .inr ⟨x, cap, e⟩ => ⟨some x, cap, e⟩
def Elems (k : IntKind) (b : Nat) (W : World) (sv : Value) (zs : List Int) : Prop :=
 (Emp sv ∧ zs = []) ∨ ∃ off cap, sv = .slice (some ⟨b, off, none⟩) zs.length cap ∧ zs.length ≤ cap ∧ ∀ j, j < zs.length → W.cell? ⟨b, off + j, none⟩ = some (.int k (zs[j]?.getD 0))
theorem cell_of_block {A B : World} {b : Nat} (h : B.heap[b]? = A.heap[b]?) (o : Nat) : B.cell? ⟨b, o, none⟩ = A.cell? ⟨b, o, none⟩ := by
 unfold World.cell?; rw [h]
theorem Elems.keep {k : IntKind} {b : Nat} {A B : World} (h : B.heap[b]? = A.heap[b]?) {sv : Value} {zs : List Int} : Elems k b A sv zs → Elems k b B sv zs
 | .inl e => .inl e
 | .inr ⟨off, cap, e, hl, hc⟩ => .inr ⟨off, cap, e, hl, fun j hj => (cell_of_block h _).trans (hc j hj)⟩
def Keeps2 (b c : Nat) (A B : World) : Prop := B.heap[b]? = A.heap[b]? ∧ B.heap[c]? = A.heap[c]?
theorem Keeps2.refl (b c : Nat) (A : World) : Keeps2 b c A A := ⟨rfl, rfl⟩
theorem Keeps2.trans {b c : Nat} {A B C : World} (h : Keeps2 b c A B) (k : Keeps2 b c B C) : Keeps2 b c A C := ⟨k.1.trans h.1, k.2.trans h.2⟩
theorem ret_bool {a b : Bool} (h : a = b) : Ending.returned (.bool a) = .returned (.bool b) := by rw [h]
theorem heap_new (w : World) (o : Obj) : (w.alloc o).heap[w.heap.size]? = some o := World.alloc_heap_new w o
theorem cell_of_box_l {W : World} {B : Nat} {v : Value} {t : TypeId} (h : W.heap[B]? = some (.cells #[v] t (0, 0))) : W.cell? ⟨B, 0, none⟩ = some v ∧ W.frozen? ⟨B, 0, none⟩ = false := by
 constructor <;> simp [World.cell?, World.frozen?, h]
theorem cell_new_l (W : World) (v : Value) (t : TypeId) : (W.alloc (.cells #[v] t)).cell? ⟨W.heap.size, 0, none⟩ = some v ∧ (W.alloc (.cells #[v] t)).frozen? ⟨W.heap.size, 0, none⟩ = false :=
 cell_of_box_l (World.alloc_heap_new W _)
theorem cell_alloc_l {W : World} {a : Addr} {v : Value} (o : Obj) (h : W.cell? a = some v) : (W.alloc o).cell? a = some v := cell_kept h (World.grownBy_alloc W o none) (fun r e => by cases e)
theorem frozen_alloc_l {W : World} {a : Addr} {v : Value} (o : Obj) (h : W.cell? a = some v) (hf : W.frozen? a = false) : (W.alloc o).frozen? a = false := (frozen_kept h (World.grownBy_alloc W o none) (fun r e => by cases e)).trans hf
theorem elems_new (k : IntKind) (w : World) (T : TypeId) (zs : List Int) :
  Elems k w.heap.size (w.alloc (.cells (zs.map (Value.int k)).toArray T)) (.slice (some ⟨w.heap.size, 0, none⟩) zs.length zs.length) zs := by
 refine .inr ⟨0, zs.length, rfl, Nat.le_refl _, ?_⟩
 intro j hj
 have h := heap_new w (.cells (zs.map (Value.int k)).toArray T)
 have e : (zs.map (Value.int k)).toArray[j]? = some (Value.int k (zs[j]?.getD 0)) := by
  rw [List.getElem?_toArray, List.getElem?_map, List.getElem?_eq_getElem hj]
  rfl
 rw [Nat.zero_add, ← e]
 unfold World.cell?
 simp only [h]
 rfl
theorem below_new {w w1 : World} {o : Obj} (h : Below (w.alloc o).heap.size (w.alloc o) w1) : Below w.heap.size w w1 :=
 ((Below.refl _ w).alloc (Nat.le_refl _) o).trans (h.mono (by simp))
def Els (k : IntKind) (w : World) (sv : Value) (zs : List Int) : Prop :=
 (Emp sv ∧ zs = []) ∨ ∃ b off cap, b < w.heap.size ∧ sv = .slice (some ⟨b, off, none⟩) zs.length cap ∧ zs.length ≤ cap ∧ ∀ j, j < zs.length → w.cell? ⟨b, off + j, none⟩ = some (.int k (zs[j]?.getD 0))
theorem Els.below {k : IntKind} {w W : World} (h : Below w.heap.size w W) {sv : Value} {zs : List Int} : Els k w sv zs → Els k W sv zs
 | .inl e => .inl e
 | .inr ⟨b, off, cap, hb, e, hl, hc⟩ => .inr ⟨b, off, cap, Nat.lt_of_lt_of_le hb h.size, e, hl, fun j hj => (h.cell (p := ⟨b, off + j, none⟩) hb).trans (hc j hj)⟩
theorem Els.new (k : IntKind) (w : World) (T : TypeId) (zs : List Int) : Els k (w.alloc (.cells (zs.map (Value.int k)).toArray T)) (.slice (some ⟨w.heap.size, 0, none⟩) zs.length zs.length) zs := by
 rcases elems_new k w T zs with ⟨h, hz⟩ | ⟨off, cap, h, hl, hc⟩
 ·exact .inl ⟨h, hz⟩
 ·exact .inr ⟨w.heap.size, off, cap, by simp, h, hl, hc⟩
def Own (k : IntKind) (E : TypeId) (B : Nat) (w : World) (sv : Value) (zs : List Int) : Prop := w.ownsRow B E 1 sv zs.length (zs.map (Value.int k))
theorem Own.els {k : IntKind} {E : TypeId} {B : Nat} {w : World} {sv : Value} {zs : List Int} (h : Own k E B w sv zs) : Els k w sv zs := by
 obtain ⟨_, ⟨rfl, hz⟩ | ⟨g, cap, cur, rfl, _, hg, hcap, _, hsz, ht⟩⟩ := h
 ·exact .inl ⟨.inl rfl, List.eq_nil_of_length_eq_zero hz⟩
 ·refine .inr ⟨g, 0, cap, (Array.getElem?_eq_some_iff.1 hg).1, rfl, hcap, ?_⟩
  intro j hj
  have e : cur[j]? = some (Value.int k (zs[j]?.getD 0)) := by
   rw [← Array.getElem?_toList, ← List.getElem?_take_of_lt (show j < zs.length * 1 by omega), ht, List.getElem?_map, List.getElem?_eq_getElem hj]
   rfl
  rw [Nat.zero_add]
  unfold World.cell?
  simp only [hg]
  exact e
theorem Own.shape {k : IntKind} {E : TypeId} {B : Nat} {w : World} {sv : Value} {zs : List Int} (h : Own k E B w sv zs) : ∃ a cap, sv = .slice a zs.length cap := by
 obtain ⟨_, ⟨rfl, hz⟩ | ⟨g, cap, cur, rfl, _⟩⟩ := h
 ·exact ⟨none, 0, by rw [hz]⟩
 ·exact ⟨_, _, rfl⟩
def Makes (k : IntKind) (E : TypeId) (zs : List Int) (w : World) (e : Ending) (w' : World) : Prop :=
 ∃ a n cap, e = .returned (.slice a n cap) ∧ Hid (n = zs.length) ∧ Hid (Own k E w.heap.size w' (.slice a n cap) zs) ∧ Hid (Below w.heap.size w w')
theorem makes_of {k : IntKind} {E : TypeId} {zs : List Int} {w w' : World} {v : Value} (h : Own k E w.heap.size w' v zs) (hB : Below w.heap.size w w') : Makes k E zs w (.returned v) w' := by
 obtain ⟨a, cap, rfl⟩ := h.shape
 exact ⟨a, _, cap, rfl, rfl, h, hB⟩
theorem extract_size (s : ByteArray) (n : Nat) : (s.extract 0 n).size ≤ n := by
 rw [ByteArray.size_extract]; omega
theorem news_at {k : IntKind} {w : World} {b off m : Nat} {zs : List Int} (hm : m ≤ zs.length) (hc : ∀ j, j < zs.length → w.cell? ⟨b, off + j, none⟩ = some (.int k (zs[j]?.getD 0))) :
  ∀ j u, ((zs.take m).map (Value.int k))[j]? = some u → w.cell? ((⟨b, off, none⟩ : Addr).add j) = some u := by
 intro j u hu
 rw [List.getElem?_map] at hu
 obtain ⟨z, hz, rfl⟩ := Option.map_eq_some_iff.1 hu
 have hj := (List.getElem?_eq_some_iff.1 hz).1
 rw [List.length_take] at hj
 have h2 := hc j (by omega)
 rw [List.getElem?_take_of_lt (by omega)] at hz
 rw [hz] at h2
 have e : (⟨b, off, none⟩ : Addr).add j = ⟨b, off + j, none⟩ := by
  by_cases h : j = 0 <;> simp [Addr.add, h]
 rw [e]
 exact h2
theorem one_new (w : World) (v : Value) (t : TypeId) : ∀ j u, [v][j]? = some u → (w.alloc (.cells #[v] t)).cell? ((⟨w.heap.size, 0, none⟩ : Addr).add j) = some u := by
 intro j u hu
 match j with
 | 0 =>
  simp at hu
  subst hu
  simp [Addr.add]
 | j + 1 => simp at hu
theorem Els.shape {k : IntKind} {w : World} {sv : Value} {zs : List Int} (h : Els k w sv zs) : ∃ a cap, sv = .slice a zs.length cap := by
 rcases h with ⟨he, rfl⟩ | ⟨b, off, cap, hb, rfl, hl, hc⟩
 ·exact he.shape
 ·exact ⟨_, _, rfl⟩
theorem Els.at {k : IntKind} {w : World} {a : Option Addr} {n cap : Nat} {zs : List Int} (h : Els k w (.slice a n cap) zs) (j : Nat) (hj : j < n) :
  ∃ b off, a = some ⟨b, off, none⟩ ∧ w.cell? ⟨b, off + j, none⟩ = some (.int k (zs[j]?.getD 0)) := by
 rcases h with ⟨he, rfl⟩ | ⟨b, off, cap, hb, he, hl, hc⟩
 ·obtain ⟨a, cap, he⟩ := he.shape
  cases he
  omega
 ·cases he
  exact ⟨b, off, rfl, hc j hj⟩
theorem Els.len {k : IntKind} {w : World} {a : Option Addr} {n cap : Nat} {zs : List Int} (h : Els k w (.slice a n cap) zs) : n = zs.length := by
 obtain ⟨a, c, he⟩ := h.shape
 cases he
 rfl
def Came (k : IntKind) (w : World) (a : Option Addr) (len cap : Nat) (zs : List Int) : Prop :=
 (a = none ∧ len = 0 ∧ cap = 0 ∧ zs = []) ∨
 ∃ x, a = some x ∧ len ≤ cap ∧ cap ≤ maxLen ∧ zs.length = cap ∧ (∀ i, i < zs.length → w.cell? (x.add i) = some (.int k (zs.getD i 0))) ∧ ∀ n ∈ zs, (Lit.int k n).wf = true
theorem block_there {w : World} {a : Addr} {v : Value} (h : w.cell? a = some v) : a.block < w.heap.size := by
 unfold World.cell? at h
 split at h
 ·next hg => exact (Array.getElem?_eq_some_iff.1 hg).1
 ·cases h
theorem Came.els {k : IntKind} {w : World} {a : Option Addr} {len cap : Nat} {zs : List Int} (h : Came k w a len cap zs) : Els k w (.slice a len cap) (zs.take len) := by
 rcases h with ⟨rfl, rfl, rfl, rfl⟩ | ⟨x, rfl, hl, _, hz, hc, _⟩
 ·exact .inl ⟨.inl rfl, rfl⟩
 ·by_cases h0 : len = 0
  ·subst h0
   exact .inl ⟨.inr ⟨x, cap, rfl⟩, rfl⟩
  ·have h1 := hc 0 (by omega)
   have h1' : w.cell? x = some (.int k (zs.getD 0 0)) := by simpa [Addr.add] using h1
   have hb := block_there h1'
   have hs : x.spot = none := by
    unfold World.cell? at h1'
    split at h1'
    ·split at h1'
     ·cases h1'
     ·next hs => simpa using hs
    ·cases h1'
   have hlen : (zs.take len).length = len := by rw [List.length_take]; omega
   refine .inr ⟨x.block, x.off, cap, hb, ?_, by omega, ?_⟩
   ·rw [hlen, ← hs]
   ·intro j hj
    rw [hlen] at hj
    have h2 := hc j (by omega)
    have e : x.add j = ⟨x.block, x.off + j, none⟩ := by
     by_cases h : j = 0
     ·subst h
      simp [Addr.add]
      rw [← hs]
     ·simp [Addr.add, h]
    rw [e] at h2
    rw [h2, List.getElem?_take_of_lt hj, List.getD_eq_getElem?_getD]
theorem Came.cap {k : IntKind} {w : World} {a : Option Addr} {len cap : Nat} {zs : List Int} (h : Came k w a len cap zs) : ∀ b l c, Value.slice a len cap = .slice b l c → c ≤ maxLen := by
 rintro b l c h2
 cases h2
 rcases h with ⟨rfl, rfl, rfl, rfl⟩ | ⟨x, rfl, hl, hm, _⟩
 ·exact Nat.zero_le _
 ·exact hm
theorem Came.wf {k : IntKind} {w : World} {a : Option Addr} {len cap : Nat} {zs : List Int} (h : Came k w a len cap zs) : ∀ z ∈ zs, (Lit.int k z).wf = true := by
 rcases h with ⟨rfl, rfl, rfl, rfl⟩ | ⟨x, rfl, hl, _, hz, hc, hw⟩
 ·intro z hz
  simp at hz
 ·exact hw
theorem Came.byt {w : World} {a : Option Addr} {len cap : Nat} {zs : List Int} (h : Came .u8 w a len cap zs) : Hm.Byt zs := by
 rcases h with ⟨rfl, rfl, rfl, rfl⟩ | ⟨x, rfl, hl, _, hz, hc, hw⟩
 ·intro z hz
  simp at hz
 ·intro z hz
  have := hw z hz
  have h2 : 0 ≤ z ∧ z ≤ 255 := by
   simpa [Lit.wf, IntKind.min, IntKind.max, IntKind.signed, IntKind.bits] using this
  omega
theorem Own.cap {k : IntKind} {E : TypeId} {B : Nat} {w : World} {sv : Value} {zs : List Int} (h : Own k E B w sv zs) : ∀ b l c, sv = .slice b l c → c ≤ maxLen := by
 rintro b l c rfl
 obtain ⟨_, ⟨h, _⟩ | ⟨g, cap, cur, h, _, _, _, hm, _⟩⟩ := h
 ·cases h
  exact Nat.zero_le _
 ·cases h
  exact hm
theorem Own.lt {k : IntKind} {E : TypeId} {B : Nat} {w : World} {sv : Value} {zs : List Int} (h : Own k E B w sv zs) : ∀ j, sv.ownBlock = some j → B ≤ j := fun j hj => (World.ownsRow.lt h j hj).1
theorem owns_below {w W : World} {B : Nat} {E : TypeId} {sz n : Nat} {v : Value} {xs : List Value} (h : w.ownsRow B E sz v n xs) (hB : Below w.heap.size w W) : W.ownsRow B E sz v n xs := by
 obtain ⟨hx, hv | ⟨g, cap, cur, hv, hg, hc, hr⟩⟩ := h
 ·exact ⟨hx, .inl hv⟩
 ·exact ⟨hx, .inr ⟨g, cap, cur, hv, hg, (hB.block g (Array.getElem?_eq_some_iff.1 hc).1).trans hc, hr⟩⟩
theorem Own.below {k : IntKind} {E : TypeId} {B : Nat} {w W : World} {sv : Value} {zs : List Int} (h : Own k E B w sv zs) (hB : Below w.heap.size w W) : Own k E B W sv zs := owns_below h hB
theorem Own.alloc {k : IntKind} {E : TypeId} {B : Nat} {w : World} {sv : Value} {zs : List Int} (h : Own k E B w sv zs) (o : Obj) : (w.alloc o).ownsRow B E 1 sv zs.length (zs.map (Value.int k)) := World.ownsRow.alloc h o
theorem Own.more {k : IntKind} {E : TypeId} {B : Nat} {w : World} {v : Value} {zs : List Int} {z : Int} (h : w.ownsRow B E 1 v (zs.length + 1) (zs.map (Value.int k) ++ [Value.int k z])) : Own k E B w v (zs ++ [z]) := by
 unfold Own
 rw [List.length_append, List.map_append]
 exact h
theorem Own.slice {k : IntKind} {E : TypeId} {B : Nat} {w : World} {v : Value} {zs : List Int} (h : Own k E B w v zs) :
  ∃ a n c, v = .slice a n c ∧ Hid (n = zs.length) ∧ Hid (Own k E B w (.slice a n c) zs) := by
 obtain ⟨a, c, rfl⟩ := h.shape
 exact ⟨a, _, c, rfl, rfl, h⟩
theorem Own.open {k : IntKind} {E : TypeId} {B : Nat} {w : World} {a : Option Addr} {n c : Nat} {zs : List Int} (h : Own k E B w (.slice a n c) zs) (hn : n = zs.length) (h0 : 0 < n) :
  ∃ g, a = some ⟨g, 0, none⟩ ∧ B ≤ g ∧ g < w.heap.size ∧ (∀ j, j < n → w.cell? ⟨g, j, none⟩ = some (.int k (zs[j]?.getD 0))) ∧ ∀ j, w.frozen? ⟨g, j, none⟩ = false := by
 subst hn
 have h' := h
 obtain ⟨_, ⟨hv, hz⟩ | ⟨g, cap, cur, hv, hg, hc, _⟩⟩ := h'
 ·omega
 ·cases hv
  refine ⟨g, rfl, hg, (Array.getElem?_eq_some_iff.1 hc).1, fun j hj => ?_, fun j => ?_⟩
  ·have e := World.ownsRow.cellAt h j (by omega)
   rw [e, List.getElem?_map, List.getElem?_eq_getElem hj]
   rfl
  ·exact World.ownsRow.frozenAt h j
theorem Own.set {k : IntKind} {E : TypeId} {B : Nat} {w : World} {g n c : Nat} {zs : List Int} (h : Own k E B w (.slice (some ⟨g, 0, none⟩) n c) zs) (hn : n = zs.length) (j : Nat) (v : Int) :
  Own k E B (w.setCell ⟨g, j, none⟩ (.int k v)) (.slice (some ⟨g, 0, none⟩) n c) (zs.set j v) := by
 subst hn
 have := (World.ownsRow.stored h j (.int k v)).1
 unfold Own
 rw [List.length_set, List.map_set]
 exact this
def Since (wb W : World) : Prop := Below wb.heap.size wb W
theorem Since.cell {wb W : World} (h : Since wb W) {p : Addr} {v : Value} (hv : wb.cell? p = some v) : W.cell? p = some v :=
 (Below.cell h (block_there hv)).trans hv
theorem Since.step {wb W W' : World} (h : Since wb W) (k : Below W.heap.size W W') : Since wb W' := Below.trans h (k.mono (Below.size h))
theorem push_own {P : Program} {ops : Array Oper} {rest : List Oper} {o : Oper} {act : Act} {Q : Exit → Act → World → Prop} {w : World} (hgd : o.guard = none) (s x : Operand) (t : TypeId)
  (ho : o.op = .call { callee := .builtin .append, args := #[s, x], argTypes := #[t, t] }) (k : IntKind) (e : TypeId) (bytes : Nat) (ht : P.underlying t = some (.slice e))
  (info : (P.info? e).map (fun i => (i.zero, i.size, i.bytes)) = some (some (.int k 0), 1, bytes)) (hby : bytes ≤ 8) (B : Nat) (v : Value) (zs : List Int) (z : Int) (T : TypeId)
  (hs : act.eval s = v) (hx : act.eval x = .slice (some ⟨w.heap.size, 0, none⟩) 1 1) (hown : Own k e B w v zs) (hB : B ≤ w.heap.size) (hl : zs.length ≤ 1000000000000)
  (h : ∀ a n c w', Hid (n = zs.length + 1) → Hid (Own k e B w' (.slice a n c) (zs ++ [z])) → Hid (Below B w w') → wpList P ops Q rest (act.put o.dst (.slice a n c)) w') :
  wpList P ops Q (o :: rest) act (w.alloc (.cells #[.int k z] T)) := by
 obtain ⟨i0, hi, hz0, hz1, hz2⟩ := info_parts info
 refine wpList_append_own _ hgd s x t ho B e i0 (.int k 0) 1 bytes ht hi hz0 hz1 hz2 rfl (by decide) v zs.length _ hs (hown.alloc _) ⟨w.heap.size, 0, none⟩ 1 1 [.int k z] hx rfl (one_new _ _ _) (by simp [Value.oneCell']) (by unfold maxLen; omega) ?_ (by simp; omega) ?_
 ·have : (zs.length + 1) * bytes ≤ (zs.length + 1) * 8 := Nat.mul_le_mul_left _ hby
  omega
 ·intro v' w1 hown' hgrow _
  obtain ⟨a, n, c, rfl, hn, hO⟩ := Own.slice (Own.more hown')
  refine h a n c w1 ?_ hO (((Below.refl B w).alloc hB _).grown hgrow (by simp; omega) fun j hj => hown.lt j hj)
  have := hn.out
  rw [List.length_append] at this
  exact this
end Go.Proofs.YtgnloodmbgdgdaaGreat
namespace Go.Proofs.YtgnloodmbgdgdaaGreat.Hm
open Go.RowKit
def uv (n : Nat) : List Int := if n < 128 then [(n : Int)] else ((n % 128 + 128 : Nat) : Int) :: uv (n / 128)
termination_by n
decreasing_by omega
def zig (n : Int) : Nat := if n < 0 then (-2 * n - 1).toNat else (2 * n).toNat
end Go.Proofs.YtgnloodmbgdgdaaGreat.Hm
namespace Go.Proofs.YtgnloodmbgdgdaaGreat
open Go.RowKit
def BoxL (N : Nat) (vs : List Value) (W : World) : Prop := N < W.heap.size ∧ ∀ i v, vs[i]? = some v → W.cell? ⟨N, i, none⟩ = some v ∧ W.frozen? ⟨N, i, none⟩ = false
theorem BoxL.made (w : World) (cs : Array Value) (t : TypeId) : BoxL w.heap.size cs.toList (w.alloc (.cells cs t)) := by
 refine ⟨by simp, fun i v h => ?_⟩
 have hn := heap_new w (.cells cs t)
 unfold World.cell? World.frozen?
 simp only [hn]
 rw [Array.getElem?_toList] at h
 exact ⟨h, by simp⟩
theorem BoxL.keep {W w1 : World} {N : Nat} {vs : List Value} (h : BoxL N vs W) (hb : Below W.heap.size W w1) : BoxL N vs w1 :=
 ⟨Nat.lt_of_lt_of_le h.1 hb.size, fun i v hv => ⟨(hb.cell (p := ⟨N, i, none⟩) h.1).trans (h.2 i v hv).1, (hb.frozen (p := ⟨N, i, none⟩) h.1).trans (h.2 i v hv).2⟩⟩
theorem BoxL.under {W : World} {N : Nat} {vs : List Value} (h : BoxL N vs W) (o : Obj) : BoxL N vs (W.alloc o) := h.keep ((Below.refl _ _).alloc (Nat.le_refl _) o)
theorem BoxL.open2 {N : Nat} {a b : Value} {W : World} (h : BoxL N [a, b] W) : W.cell? ⟨N, 0, none⟩ = some a ∧ W.cell? ⟨N, 1, none⟩ = some b ∧ W.frozen? ⟨N, 0, none⟩ = false ∧ W.frozen? ⟨N, 1, none⟩ = false ∧ N < W.heap.size :=
 ⟨(h.2 0 a rfl).1, (h.2 1 b rfl).1, (h.2 0 a rfl).2, (h.2 1 b rfl).2, h.1⟩
theorem BoxL.open3 {N : Nat} {a b c : Value} {W : World} (h : BoxL N [a, b, c] W) : W.cell? ⟨N, 0, none⟩ = some a ∧ W.cell? ⟨N, 1, none⟩ = some b ∧ W.cell? ⟨N, 2, none⟩ = some c ∧ W.frozen? ⟨N, 0, none⟩ = false ∧ W.frozen? ⟨N, 1, none⟩ = false ∧ W.frozen? ⟨N, 2, none⟩ = false ∧ N < W.heap.size :=
 ⟨(h.2 0 a rfl).1, (h.2 1 b rfl).1, (h.2 2 c rfl).1, (h.2 0 a rfl).2, (h.2 1 b rfl).2, (h.2 2 c rfl).2, h.1⟩
theorem BoxL.open8 {N : Nat} {a b c d e f g i : Value} {W : World} (h : BoxL N [a, b, c, d, e, f, g, i] W) : W.cell? ⟨N, 0, none⟩ = some a ∧ W.cell? ⟨N, 1, none⟩ = some b ∧ W.cell? ⟨N, 2, none⟩ = some c ∧ W.cell? ⟨N, 3, none⟩ = some d ∧ W.cell? ⟨N, 4, none⟩ = some e ∧ W.cell? ⟨N, 5, none⟩ = some f ∧ W.cell? ⟨N, 6, none⟩ = some g ∧ W.cell? ⟨N, 7, none⟩ = some i ∧ N < W.heap.size :=
 ⟨(h.2 0 a rfl).1, (h.2 1 b rfl).1, (h.2 2 c rfl).1, (h.2 3 d rfl).1, (h.2 4 e rfl).1, (h.2 5 f rfl).1, (h.2 6 g rfl).1, (h.2 7 i rfl).1, h.1⟩
theorem cell_new8 (w : World) (a b c d e f g i : Value) (t : TypeId) : BoxL w.heap.size [a, b, c, d, e, f, g, i] (w.alloc (.cells #[a, b, c, d, e, f, g, i] t)) := BoxL.made w _ t
theorem BoxL.open1 {N : Nat} {a : Value} {W : World} (h : BoxL N [a] W) : W.cell? ⟨N, 0, none⟩ = some a ∧ W.frozen? ⟨N, 0, none⟩ = false ∧ N < W.heap.size := ⟨(h.2 0 a rfl).1, (h.2 0 a rfl).2, h.1⟩
theorem BoxL.set1 {W : World} {N : Nat} {vs : List Value} (h : BoxL N vs W) (k : Nat) (x : Value) (hk : k < vs.length) : BoxL N (vs.set k x) (W.setCell ⟨N, k, none⟩ x) := by
 refine ⟨?_, fun i v hv => ?_⟩
 ·exact Nat.lt_of_lt_of_le h.1 ((Below.refl N W).setCell (p := ⟨N, k, none⟩) (Nat.le_refl _) x).size
 ·rw [World.frozen?_setCell]
  rw [List.getElem?_set] at hv
  by_cases e : k = i
  ·subst e
   rw [if_pos rfl, if_pos hk] at hv
   cases hv
   have o := h.2 k vs[k] (by simp [hk])
   exact ⟨World.cell?_setCell_same _ _ _ o.1, o.2⟩
  ·rw [if_neg e] at hv
   have o := h.2 i v hv
   refine ⟨?_, o.2⟩
   rw [World.cell?_setCell_other _ ⟨N, k, none⟩ ⟨N, i, none⟩ _ (by simp)]
   exact o.1
theorem BoxL.store1 {W : World} {N : Nat} {a : Value} (h : BoxL N [a] W) (x : Value) : BoxL N [x] (W.setCell ⟨N, 0, none⟩ x) := h.set1 0 x (by simp)
end Go.Proofs.YtgnloodmbgdgdaaGreat
namespace Go.Proofs.YtgnloodmbgdgdaaGreat.Qm
open Go.RowKit
def g (a b : Int) : Int := (Int.gcd a b : Int)
theorem g_zero (a : Int) : g a 0 = if a < 0 then -a else a := by
 unfold g
 rw [Int.gcd_zero_right]
 split <;> omega
theorem g_step (a b : Int) : g b (a.tmod b) = g a b := by
 unfold g Int.gcd
 rw [Int.natAbs_tmod, Nat.gcd_comm a.natAbs, Nat.gcd_rec b.natAbs a.natAbs, Nat.gcd_comm]
theorem g_left (a b : Int) : g a b ∣ a := Int.gcd_dvd_left ..
theorem g_right (a b : Int) : g a b ∣ b := Int.gcd_dvd_right ..
theorem g_pos {a b : Int} (h : b ≠ 0) : 1 ≤ g a b := by
 have : 0 < Int.gcd a b := Int.gcd_pos_of_ne_zero_right _ h
 unfold g
 omega
def ofR (n d : Int) : Int × Int × Int :=
 if d < 0 then (if -n / g n d > 1099511627776 ∨ -n / g n d < -1099511627776 ∨ -d / g n d > 1048576 then (0, 0, 5) else (-n / g n d, -d / g n d, 0))
 else (if n / g n d > 1099511627776 ∨ n / g n d < -1099511627776 ∨ d / g n d > 1048576 then (0, 0, 5) else (n / g n d, d / g n d, 0))
theorem ofR_pos {n d : Int} (h : 0 < d) : ofR n d = if n / g n d > 1099511627776 ∨ n / g n d < -1099511627776 ∨ d / g n d > 1048576 then (0, 0, 5) else (n / g n d, d / g n d, 0) := by
 unfold ofR
 rw [if_neg (by omega)]
theorem g_neg (n d : Int) : g (-n) (-d) = g n d := by unfold g; simp
theorem ofR_neg {n d : Int} (h : d < 0) : ofR n d = ofR (-n) (-d) := by
 rw [ofR_pos (n := -n) (d := -d) (by omega), g_neg]
 unfold ofR
 rw [if_pos h]
def Ok (n d : Int) : Prop := 1 ≤ d ∧ d ≤ 1048576 ∧ -1099511627776 ≤ n ∧ n ≤ 1099511627776 ∧ g n d = 1
instance (n d : Int) : Decidable (Ok n d) := inferInstanceAs (Decidable (_ ∧ _ ∧ _ ∧ _ ∧ _))
theorem ofR_ok {n d : Int} (h : Ok n d) : ofR n d = (n, d, 0) := by
 obtain ⟨h1, h2, h3, h4, h5⟩ := h
 rw [ofR_pos (by omega), h5, Int.ediv_one, Int.ediv_one, if_neg (by omega)]
theorem g_low {n d : Int} (h : d ≠ 0) : g (n / g n d) (d / g n d) = 1 := by
 have hp : 0 < Int.gcd n d := Int.gcd_pos_of_ne_zero_right _ h
 unfold g
 rw [Int.gcd_ediv_gcd_ediv_gcd hp]
 rfl
theorem ofR_out {n d : Int} (h : d ≠ 0) : ofR n d = (0, 0, 5) ∨ ∃ a b, ofR n d = (a, b, 0) ∧ Ok a b ∧ a * d = n * b := by
 suffices H : ∀ n d : Int, 0 < d → ofR n d = (0, 0, 5) ∨ ∃ a b, ofR n d = (a, b, 0) ∧ Ok a b ∧ a * d = n * b by
  by_cases hd : 0 < d
  ·exact H n d hd
  ·rw [ofR_neg (by omega)]
   rcases H (-n) (-d) (by omega) with e | ⟨a, b, e, o, m⟩
   ·exact .inl e
   ·refine .inr ⟨a, b, e, o, ?_⟩
    rw [Int.mul_neg, Int.neg_mul] at m
    omega
 intro n d h
 rw [ofR_pos h]
 have hg : 0 < g n d := by have := g_pos (a := n) (b := d) (by omega); omega
 split
 ·exact .inl rfl
 ·refine .inr ⟨_, _, rfl, ⟨?_, by omega, by omega, by omega, g_low (by omega)⟩, ?_⟩
  ·exact Int.ediv_pos_of_pos_of_dvd h (by omega) (g_right _ _)
  ·rw [← Int.mul_ediv_assoc' _ (g_left n d), ← Int.mul_ediv_assoc _ (g_right n d)]
def newR (n d : Int) : Int × Int × Int := if d = 0 then (0, 0, 1) else ofR n d
def validI (n d : Int) : Int := if Ok n d then 0 else 1
theorem validI_two (n d : Int) : validI n d = 0 ∨ validI n d = 1 := by unfold validI; split; (· exact .inl rfl); (· exact .inr rfl)
theorem validI_ok {n d : Int} : validI n d = 0 ↔ Ok n d := by unfold validI; split <;> simp [*]
def bothI (a b c d : Int) : Int := if validI a b = 0 ∧ validI c d = 0 then 0 else 1
theorem bothI_two (a b c d : Int) : bothI a b c d = 0 ∨ bothI a b c d = 1 := by unfold bothI; split; (· exact .inl rfl); (· exact .inr rfl)
theorem bothI_ok {a b c d : Int} : bothI a b c d = 0 ↔ Ok a b ∧ Ok c d := by
 rw [← validI_ok, ← validI_ok]
 unfold bothI
 split <;> simp_all
def cmpI (a b c d : Int) : Int := if a * d < c * b then -1 else if c * b < a * d then 1 else 0
theorem mul_small {a d : Int} (h1 : -1099511627776 ≤ a) (h2 : a ≤ 1099511627776) (h3 : 1 ≤ d) (h4 : d ≤ 1048576) : -1152921504606846976 ≤ a * d ∧ a * d ≤ 1152921504606846976 := by
 have e1 : a * d ≤ 1099511627776 * d := Int.mul_le_mul_of_nonneg_right h2 (by omega)
 have e2 : -1099511627776 * d ≤ a * d := Int.mul_le_mul_of_nonneg_right h1 (by omega)
 omega
theorem mul_pos {b d : Int} (h1 : 1 ≤ b) (h2 : b ≤ 1048576) (h3 : 1 ≤ d) (h4 : d ≤ 1048576) : 1 ≤ b * d ∧ b * d ≤ 1099511627776 := by
 have e1 : b * d ≤ 1048576 * d := Int.mul_le_mul_of_nonneg_right h2 (by omega)
 have e2 : 1 * d ≤ b * d := Int.mul_le_mul_of_nonneg_right h1 (by omega)
 omega
end Go.Proofs.YtgnloodmbgdgdaaGreat.Qm
namespace Go.Proofs.YtgnloodmbgdgdaaGreat
namespace Tx
def row (P : List (List Int)) (c : Nat) : List Int := P[c]?.getD []
inductive Inh (P : List (List Int)) : Nat → Nat → Prop
 | refl (c : Nat) : Inh P c c
 | step {c p d : Nat} : (p : Int) ∈ row P c → Inh P p d → Inh P c d
theorem Inh.trans {P : List (List Int)} {a b c : Nat} (h : Inh P a b) (k : Inh P b c) : Inh P a c := by
 induction h with
 | refl c => exact k
 | step hp _ ih => exact .step hp (ih k)
theorem Inh.one {P : List (List Int)} {c p : Nat} (h : (p : Int) ∈ row P c) : Inh P c p := .step h (.refl p)
theorem Inh.cases' {P : List (List Int)} {c d : Nat} (h : Inh P c d) : c = d ∨ ∃ p : Nat, (p : Int) ∈ row P c ∧ Inh P p d := by
 cases h with
 | refl => exact .inl rfl
 | step hp hi => exact .inr ⟨_, hp, hi⟩
def Cyc (P : List (List Int)) : Prop := ∃ c p : Nat, (p : Int) ∈ row P c ∧ Inh P p c
noncomputable def inh (P : List (List Int)) (c d : Nat) : Bool := @decide (Inh P c d) (Classical.propDecidable _)
theorem inh_eq {P : List (List Int)} {c d : Nat} : inh P c d = true ↔ Inh P c d := by
 unfold inh
 exact @decide_eq_true_iff _ (Classical.propDecidable _)
def okB (n : Nat) : Int → List Int → Bool
 | _, [] => true
 | last, x :: xs => if x ≤ last ∨ (n : Int) ≤ x then false else okB n x xs
def okAll (n : Nat) (P : List (List Int)) : Bool := P.all (okB n (-1))
theorem okB_mem {n : Nat} {last : Int} {l : List Int} (h : okB n last l = true) : ∀ x ∈ l, last < x ∧ x < n := by
 induction l generalizing last with
 | nil => intro x hx; simp at hx
 | cons y ys ih =>
  unfold okB at h
  split at h
  ·cases h
  ·next hy =>
   intro x hx
   rcases List.mem_cons.1 hx with rfl | hx
   ·omega
   ·have := ih h x hx; omega
noncomputable def newE (P : List (List Int)) : Int :=
 if 64 < P.length then 4 else if okAll P.length P = false then 1 else @ite _ (Cyc P) (Classical.propDecidable _) 9 0
theorem newE_ok {P : List (List Int)} : newE P = 0 ↔ P.length ≤ 64 ∧ okAll P.length P = true ∧ ¬ Cyc P := by
 unfold newE
 split
 ·constructor
  ·intro h; cases h
  ·intro h; omega
 ·split
  ·next h1 h2 =>
   constructor
   ·intro h; cases h
   ·intro h; rw [h2] at h; simp at h
  ·next h1 h2 =>
   have h2' : okAll P.length P = true := by simpa using h2
   split
   ·next hc =>
    constructor
    ·intro h; cases h
    ·intro h; exact absurd hc h.2.2
   ·next hc => exact ⟨fun _ => ⟨by omega, h2', hc⟩, fun _ => rfl⟩
structure Good (P : List (List Int)) : Prop where
 len : P.length ≤ 64
 ok : okAll P.length P = true
 acy : ¬ Cyc P
theorem row_mem {P : List (List Int)} {c : Nat} {x : Int} (h : x ∈ row P c) : ∃ l, P[c]? = some l ∧ x ∈ l := by
 unfold row at h
 cases hl : P[c]? with
 | none => simp [hl] at h
 | some l => exact ⟨l, rfl, by simpa [hl] using h⟩
theorem row_lt {P : List (List Int)} {c : Nat} {x : Int} (h : x ∈ row P c) : c < P.length := by
 obtain ⟨l, hl, _⟩ := row_mem h
 exact (List.getElem?_eq_some_iff.1 hl).1
theorem ok_row {n : Nat} {P : List (List Int)} (h : okAll n P = true) {c : Nat} {x : Int} (hx : x ∈ row P c) : 0 ≤ x ∧ x < n := by
 obtain ⟨l, hl, hx⟩ := row_mem hx
 have := okB_mem (List.all_eq_true.1 h l (List.mem_of_getElem? hl)) x hx
 omega
theorem ok_len {P : List (List Int)} (h : okAll P.length P = true) {c p : Nat} (hx : (p : Int) ∈ row P c) : p < P.length := by
 have := ok_row h hx; omega
theorem Inh.lt {P : List (List Int)} (h : okAll P.length P = true) {c d : Nat} (hi : Inh P c d) (hc : c < P.length) : d < P.length := by
 induction hi with
 | refl => exact hc
 | step hp _ ih => exact ih (ok_len h hp)
theorem Inh.anti {P : List (List Int)} (h : ¬ Cyc P) {c d : Nat} (h1 : Inh P c d) (h2 : Inh P d c) : c = d := by
 rcases h1.cases' with e | ⟨p, hp, hi⟩
 ·exact e
 ·exact absurd ⟨c, p, hp, hi.trans h2⟩ h
structure Dfs (P : List (List Int)) (E L : Nat → Bool) (F : Nat → Nat → Bool) : Prop where
 le : ∀ c, L c = true → E c = true
 lt : ∀ c, E c = true → c < P.length
 up : ∀ c, L c = true → ∀ p : Nat, (p : Int) ∈ row P c → L p = true
 tab : ∀ c, L c = true → ∀ d, d < 64 → F c d = inh P c d
 acy : ∀ c, L c = true → ∀ p : Nat, (p : Int) ∈ row P c → ¬ Inh P p c
def Stack (P : List (List Int)) (E L : Nat → Bool) (c : Nat) : Prop := ∀ x, E x = true → L x = false → ∃ p : Nat, (p : Int) ∈ row P x ∧ Inh P p c
structure Went (P : List (List Int)) (E L E' L' : Nat → Bool) (F' : Nat → Nat → Bool) : Prop where
 dfs : Dfs P E' L' F'
 mono : ∀ x, L x = true → L' x = true
 more : ∀ x, E x = true → E' x = true
 stack : ∀ x, E' x = true → L' x = false → E x = true ∧ L x = false
 back : ∀ x, E x = true → L x = false → L' x = false
theorem Went.refl {P : List (List Int)} {E L : Nat → Bool} {F : Nat → Nat → Bool} (h : Dfs P E L F) : Went P E L E L F := ⟨h, fun _ h => h, fun _ h => h, fun _ h k => ⟨h, k⟩, fun _ _ k => k⟩
theorem Went.trans {P : List (List Int)} {E L E1 L1 E2 L2 : Nat → Bool} {F1 F2 : Nat → Nat → Bool} (h : Went P E L E1 L1 F1) (k : Went P E1 L1 E2 L2 F2) : Went P E L E2 L2 F2 :=
 ⟨k.dfs, fun x hx => k.mono x (h.mono x hx), fun x hx => k.more x (h.more x hx), fun x h1 h2 => (h.stack x (k.stack x h1 h2).1 (k.stack x h1 h2).2), fun x h1 h2 => k.back x (h.more x h1) (h.back x h1 h2)⟩
def put (E : Nat → Bool) (c : Nat) : Nat → Bool := fun x => if x = c then true else E x
theorem put_same (E : Nat → Bool) (c : Nat) : put E c c = true := if_pos rfl
theorem put_other {E : Nat → Bool} {c x : Nat} (h : x ≠ c) : put E c x = E x := if_neg h
theorem Dfs.enter {P : List (List Int)} {E L : Nat → Bool} {F : Nat → Nat → Bool} (h : Dfs P E L F) {c : Nat} (hc : c < P.length) : Dfs P (put E c) L F where
 le := fun x hx => by
  by_cases e : x = c
  ·rw [e]; exact put_same E c
  ·rw [put_other e]; exact h.le x hx
 lt := fun x hx => by
  by_cases e : x = c
  ·rw [e]; exact hc
  ·rw [put_other e] at hx; exact h.lt x hx
 up := h.up
 tab := h.tab
 acy := h.acy
theorem Stack.parent {P : List (List Int)} {E L Ek Lk : Nat → Bool} {Fk : Nat → Nat → Bool} {c p : Nat} (h : Stack P E L c) (hw : Went P (put E c) L Ek Lk Fk) (hp : (p : Int) ∈ row P c) : Stack P Ek Lk p := fun x h1 h2 => by
 obtain ⟨h3, h4⟩ := hw.stack x h1 h2
 by_cases e : x = c
 ·subst e; exact ⟨p, hp, .refl _⟩
 ·rw [put_other e] at h3
  obtain ⟨q, hq, hi⟩ := h x h3 h4
  exact ⟨q, hq, hi.trans (.one hp)⟩
theorem Dfs.closed {P : List (List Int)} {E L : Nat → Bool} {F : Nat → Nat → Bool} (h : Dfs P E L F) {c d : Nat} (hi : Inh P c d) (hc : L c = true) : L d = true := by
 induction hi with
 | refl => exact hc
 | step hp _ ih => exact ih (h.up _ hc _ hp)
def setRow (F : Nat → Nat → Bool) (c : Nat) (f : Nat → Bool) : Nat → Nat → Bool := fun x => if x = c then f else F x
theorem Went.leave {P : List (List Int)} {E L Ek Lk : Nat → Bool} {Fk : Nat → Nat → Bool} {c : Nat} (hn : E c = false) (hw : Went P (put E c) L Ek Lk Fk) (hL : L c = false) (hc : c < P.length)
  (hp : ∀ p : Nat, (p : Int) ∈ row P c → Lk p = true) (f : Nat → Bool) (hf : ∀ d, d < 64 → f d = inh P c d) : Went P E L Ek (put Lk c) (setRow Fk c f) where
 dfs := by
  have hck : Lk c = false := hw.back c (put_same E c) hL
  refine ⟨fun x hx => ?_, hw.dfs.lt, fun x hx p hxp => ?_, fun x hx d hd => ?_, fun x hx p hxp hi => ?_⟩
  ·by_cases e : x = c
   ·rw [e]; exact hw.more c (put_same E c)
   ·rw [put_other e] at hx; exact hw.dfs.le x hx
  ·have : Lk p = true := by
    by_cases e : x = c
    ·subst e; exact hp p hxp
    ·rw [put_other e] at hx; exact hw.dfs.up x hx p hxp
   by_cases e : p = c
   ·rw [e]; exact put_same _ _
   ·rw [put_other e]; exact this
  ·unfold setRow
   by_cases e : x = c
   ·rw [if_pos e, e]; exact hf d hd
   ·rw [if_neg e]; rw [put_other e] at hx; exact hw.dfs.tab x hx d hd
  ·by_cases e : x = c
   ·subst e
    have := hw.dfs.closed hi (hp p hxp)
    rw [hck] at this; cases this
   ·rw [put_other e] at hx; exact hw.dfs.acy x hx p hxp hi
 mono := fun x hx => by
  by_cases e : x = c
  ·rw [e]; exact put_same _ _
  ·rw [put_other e]; exact hw.mono x hx
 more := fun x hx => hw.more x (by
  by_cases e : x = c
  ·rw [e]; exact put_same _ _
  ·rw [put_other e]; exact hx)
 stack := fun x h1 h2 => by
  by_cases e : x = c
  ·rw [e, put_same] at h2; cases h2
  ·rw [put_other e] at h2
   have := hw.stack x h1 h2
   rw [put_other e] at this; exact this
 back := fun x h1 h2 => by
  by_cases e : x = c
  ·rw [e, hn] at h1; cases h1
  ·rw [put_other e]
   exact hw.back x (by rw [put_other e]; exact h1) h2
def left (E : Nat → Bool) (n : Nat) : Nat := ((List.range n).filter fun x => !E x).length
theorem left_succ (E : Nat → Bool) (n : Nat) : left E (n + 1) = left E n + (if E n = true then 0 else 1) := by
 unfold left
 rw [List.range_succ, List.filter_append, List.length_append]
 cases h : E n <;> simp [h]
theorem left_mono {E E' : Nat → Bool} (h : ∀ x, E x = true → E' x = true) (n : Nat) : left E' n ≤ left E n := by
 induction n with
 | zero => exact Nat.le_refl _
 | succ n ih =>
  rw [left_succ, left_succ]
  by_cases e : E n = true
  ·rw [if_pos e, if_pos (h n e)]; omega
  ·rw [if_neg e]; split <;> omega
theorem left_put {E : Nat → Bool} {c : Nat} (hn : E c = false) : ∀ n, c < n → left (put E c) n < left E n := by
 intro n
 induction n with
 | zero => intro h; omega
 | succ n ih =>
  intro h
  rw [left_succ, left_succ]
  by_cases e : c = n
  ·subst e
   rw [put_same, if_pos rfl, hn]
   have : left (put E c) c ≤ left E c := left_mono (fun x hx => by
    by_cases e : x = c
    ·rw [e]; exact put_same _ _
    ·rw [put_other e]; exact hx) c
   simp; omega
  ·have := ih (by omega)
   rw [put_other (Ne.symm e)]
   omega
theorem Dfs.all {P : List (List Int)} {E L : Nat → Bool} {F : Nat → Nat → Bool} (h : Dfs P E L F) (ha : ∀ c, c < P.length → L c = true) : ¬ Cyc P := by
 rintro ⟨c, p, hp, hi⟩
 exact h.acy c (ha c (row_lt hp)) p hp hi
end Tx
end Go.Proofs.YtgnloodmbgdgdaaGreat
namespace Go.Proofs.YtgnloodmbgdgdaaGreat
open Go.RowKit Go.Shelf
def befB (back : Bool) (c i : Nat) : Bool := if back = true then decide (i < c) else decide (c < i)
def RowsOK (n : Nat) (back : Bool) (P : List (List Int)) : Prop := ∀ (i : Nat) (l : List Int), P[i]? = some l → Tx.okB n (-1) l = true ∧ l.length ≤ n ∧ ∀ x ∈ l, ∀ c : Nat, x = (c : Int) → befB back c i = true
theorem RowsOK.snoc {n : Nat} {back : Bool} {P : List (List Int)} (h : RowsOK n back P) {l : List Int} (h1 : Tx.okB n (-1) l = true) (h2 : l.length ≤ n) (h3 : ∀ x ∈ l, ∀ c : Nat, x = (c : Int) → befB back c P.length = true) : RowsOK n back (P ++ [l]) := by
 intro i l' hl
 by_cases hi : i < P.length
 ·rw [List.getElem?_append_left hi] at hl
  exact h i l' hl
 ·have hil := (List.getElem?_eq_some_iff.1 hl).1
  rw [List.length_append] at hil
  simp at hil
  have e : i = P.length := by omega
  subst e
  rw [List.getElem?_append_right (Nat.le_refl _)] at hl
  simp at hl
  subst hl
  exact ⟨h1, h2, h3⟩
theorem okB_snoc {n : Nat} : ∀ (l : List Int) (last x : Int), Tx.okB n last l = true → (∀ y ∈ l, y < x) → last < x → x < n → Tx.okB n last (l ++ [x]) = true
 | [], last, x, _, _, h1, h2 => by
  rw [List.nil_append]
  unfold Tx.okB
  rw [if_neg (by omega)]
  rfl
 | y :: ys, last, x, h, h0, h1, h2 => by
  rw [List.cons_append]
  unfold Tx.okB at h ⊢
  split at h
  ·cases h
  ·next hy =>
   rw [if_neg hy]
   exact okB_snoc ys y x h (fun z hz => h0 z (List.mem_cons_of_mem _ hz)) (h0 y (List.mem_cons_self)) h2
theorem rows_good {n : Nat} {back : Bool} {P : List (List Int)} (h : RowsOK n back P) (hn : P.length = n) (h64 : n ≤ 64) : Tx.Good P where
 len := by omega
 ok := List.all_eq_true.2 fun l hl => by
  obtain ⟨i, hi⟩ := List.getElem?_of_mem hl
  rw [hn]
  exact (h i l hi).1
 acy := by
  have hstep : ∀ {c p : Nat}, (p : Int) ∈ Tx.row P c → befB back p c = true := fun {c p} hp => by
   obtain ⟨l, hl, hx⟩ := Tx.row_mem hp
   exact (h c l hl).2.2 _ hx p rfl
  cases back with
  | false =>
   have hle : ∀ {c d : Nat}, Tx.Inh P c d → d ≤ c := fun {c d} hi => by
    induction hi with
    | refl => exact Nat.le_refl _
    | step hp _ ih => have := of_decide_eq_true (hstep hp); omega
   rintro ⟨c, p, hp, hi⟩
   have h1 := of_decide_eq_true (hstep hp)
   have h2 := hle hi
   omega
  | true =>
   have hle : ∀ {c d : Nat}, Tx.Inh P c d → c ≤ d := fun {c d} hi => by
    induction hi with
    | refl => exact Nat.le_refl _
    | step hp _ ih => have := of_decide_eq_true (hstep hp); omega
   rintro ⟨c, p, hp, hi⟩
   have h1 := of_decide_eq_true (hstep hp)
   have h2 := hle hi
   omega
end Go.Proofs.YtgnloodmbgdgdaaGreat
namespace Go.Proofs.YtgnloodmbgdgdaaGreat
open Go.RowKit
theorem exists_mult : ∀ n : Nat, ∃ F : Nat, 0 < F ∧ ∀ d, 1 ≤ d → d ≤ n → d ∣ F
 | 0 => ⟨1, by decide, fun d h1 h2 => by omega⟩
 | n + 1 => by
  obtain ⟨F, h0, h⟩ := exists_mult n
  refine ⟨F * (n + 1), Nat.mul_pos h0 (by omega), fun d h1 h2 => ?_⟩
  by_cases e : d = n + 1
  ·exact ⟨F, by rw [e, Nat.mul_comm]⟩
  ·exact Nat.dvd_trans (h d h1 (by omega)) (Nat.dvd_mul_right ..)
noncomputable def FF : Nat := Classical.choose (exists_mult 1048576)
theorem FF_pos : 0 < FF := (Classical.choose_spec (exists_mult 1048576)).1
theorem FF_dvd (d : Nat) (h1 : 1 ≤ d) (h2 : d ≤ 1048576) : d ∣ FF := (Classical.choose_spec (exists_mult 1048576)).2 d h1 h2
noncomputable def kR (n d : Int) : Int := n * ((FF / d.toNat : Nat) : Int)
theorem kR_mul {n d : Int} (h1 : 1 ≤ d) (h2 : d ≤ 1048576) : kR n d * d = n * FF := by
 obtain ⟨q, hq⟩ := FF_dvd d.toNat (by omega) (by omega)
 unfold kR
 have hd : ((d.toNat : Nat) : Int) = d := Int.toNat_of_nonneg (by omega)
 have e : FF / d.toNat = q := by rw [hq]; exact Nat.mul_div_cancel_left _ (by omega)
 rw [e, hq, Int.natCast_mul, hd, Int.mul_assoc, Int.mul_comm d]
theorem mul_lt_iff {a b c : Int} (hc : 0 < c) : a * c < b * c ↔ a < b := ⟨fun h => Int.lt_of_mul_lt_mul_right h (by omega), fun h => Int.mul_lt_mul_of_pos_right h hc⟩
theorem kR_lt {n d n' d' : Int} (h1 : 1 ≤ d) (h2 : d ≤ 1048576) (h3 : 1 ≤ d') (h4 : d' ≤ 1048576) : kR n d < kR n' d' ↔ n * d' < n' * d := by
 have e1 := kR_mul (n := n) h1 h2
 have e2 := kR_mul (n := n') h3 h4
 have hF : (0 : Int) < FF := by have := FF_pos; omega
 have hp : 0 < d * d' := Int.mul_pos (by omega) (by omega)
 rw [← mul_lt_iff hp, ← mul_lt_iff (a := n * d') (b := n' * d) hF]
 have a1 : kR n d * (d * d') = n * d' * FF := by rw [← Int.mul_assoc, e1, Int.mul_right_comm]
 have a2 : kR n' d' * (d * d') = n' * d * FF := by rw [Int.mul_comm d, ← Int.mul_assoc, e2, Int.mul_right_comm]
 rw [a1, a2]
theorem cmp_kR {n d n' d' : Int} (o : Qm.Ok n d) (o' : Qm.Ok n' d') : Qm.cmpI n d n' d' = if kR n d < kR n' d' then -1 else if kR n d = kR n' d' then 0 else 1 := by
 have l1 := kR_lt (n := n) (n' := n') o.1 o.2.1 o'.1 o'.2.1
 have l2 := kR_lt (n := n') (n' := n) o'.1 o'.2.1 o.1 o.2.1
 unfold Qm.cmpI
 by_cases h1 : n * d' < n' * d
 ·rw [if_pos h1, if_pos (l1.2 h1)]
 ·rw [if_neg h1, if_neg (mt l1.1 h1)]
  by_cases h2 : n * d' > n' * d
  ·have : kR n' d' < kR n d := l2.2 h2
   rw [if_pos h2, if_neg (by omega)]
  ·have h3 : kR n d = kR n' d' := by have := mt l1.1 h1; have := mt l2.1 (show ¬ n' * d < n * d' from h2); omega
   rw [if_neg h2, if_pos h3]
structure Cut where
 n : Int
 d : Int
 a : Bool
deriving DecidableEq, Inhabited
noncomputable def Cut.key (c : Cut) : Int := 2 * kR c.n c.d + if c.a then 1 else 0
def Cut.Ok (c : Cut) : Prop := Qm.Ok c.n c.d
noncomputable def cmpC (x y : Cut) : Int := if x.key < y.key then -1 else if x.key = y.key then 0 else 1
theorem cmpC_eq {x y : Cut} (o : x.Ok) (o' : y.Ok) : cmpC x y = if Qm.cmpI x.n x.d y.n y.d ≠ 0 then Qm.cmpI x.n x.d y.n y.d else if x.a = y.a then 0 else if y.a then -1 else 1 := by
 obtain ⟨n, d, a⟩ := x
 obtain ⟨n', d', a'⟩ := y
 have e := cmp_kR (n := n) (d := d) (n' := n') (d' := d') o o'
 unfold cmpC Cut.key
 simp only
 rw [e]
 clear e o o'
 generalize kR n d = p
 generalize kR n' d' = q
 have hk : ∀ a : Bool, (if a = true then (1 : Int) else 0) = 0 ∨ (if a = true then (1 : Int) else 0) = 1 := by intro a; cases a; (· exact .inl rfl); (· exact .inr rfl)
 rcases Int.lt_trichotomy p q with h | h | h
 ·have hc : (if p < q then (-1 : Int) else if p = q then 0 else 1) = -1 := by rw [if_pos h]
  rw [hc, if_pos (show (-1 : Int) ≠ 0 by decide)]
  have := hk a
  have := hk a'
  rw [if_pos (by omega)]
 ·have hc : (if p < q then (-1 : Int) else if p = q then 0 else 1) = 0 := by rw [if_neg (by omega), if_pos h]
  rw [hc, if_neg (show ¬ (0 : Int) ≠ 0 by decide)]
  subst h
  cases a <;> cases a' <;> simp <;> omega
 ·have hc : (if p < q then (-1 : Int) else if p = q then 0 else 1) = 1 := by rw [if_neg (by omega), if_neg (by omega)]
  rw [hc, if_pos (show (1 : Int) ≠ 0 by decide)]
  have := hk a
  have := hk a'
  rw [if_neg (by omega), if_neg (by omega)]
end Go.Proofs.YtgnloodmbgdgdaaGreat
