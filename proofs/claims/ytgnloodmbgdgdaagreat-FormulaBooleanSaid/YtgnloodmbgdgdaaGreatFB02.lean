import Derived.Test.YtgnloodmbgdgdaaGreatFB01
import Derived.Maps.AppendAt
namespace Go.Proofs.YtgnloodmbgdgdaaGreat
open Go.RowKit
structure RowOf (α : Type) where
 cells : α → List Value
 k : Nat
 len : ∀ x, (cells x).length = k
 one : ∀ x, ∀ v ∈ cells x, v.oneCell' = true
 pos : 0 < k
theorem RowOf.flat {α : Type} (R : RowOf α) (xs : List α) : (xs.flatMap R.cells).length = xs.length * R.k := by
 induction xs with
 | nil => simp
 | cons x xs ih => rw [List.flatMap_cons, List.length_append, ih, R.len, List.length_cons, Nat.succ_mul]; omega
theorem RowOf.at {α : Type} (R : RowOf α) (xs : List α) : ∀ (j : Nat) (x : α), xs[j]? = some x → ∀ i, i < R.k → (xs.flatMap R.cells)[j * R.k + i]? = (R.cells x)[i]? := by
 induction xs with
 | nil => intro j x h; simp at h
 | cons y xs ih =>
  intro j x h i hi
  rw [List.flatMap_cons]
  cases j with
  | zero =>
   simp at h
   subst h
   rw [Nat.zero_mul, Nat.zero_add, List.getElem?_append_left (by rw [R.len]; exact hi)]
  | succ j =>
   simp at h
   rw [List.getElem?_append_right (by rw [R.len, Nat.succ_mul]; omega), R.len, show (j + 1) * R.k + i - R.k = j * R.k + i by rw [Nat.succ_mul]; omega]
   exact ih j x h i hi
def REls {α : Type} (R : RowOf α) (w : World) (sv : Value) (xs : List α) : Prop :=
 (Emp sv ∧ xs = []) ∨ ∃ b cap, b < w.heap.size ∧ sv = .slice (some ⟨b, 0, none⟩) xs.length cap ∧ xs.length ≤ cap ∧ ∀ j x, xs[j]? = some x → ∀ i v, (R.cells x)[i]? = some v → w.cell? ⟨b, j * R.k + i, none⟩ = some v
theorem REls.below {α : Type} {R : RowOf α} {w W : World} (hB : Below w.heap.size w W) {sv : Value} {xs : List α} : REls R w sv xs → REls R W sv xs
 | .inl h => .inl h
 | .inr ⟨b, cap, hb, he, hl, hc⟩ => .inr ⟨b, cap, Nat.lt_of_lt_of_le hb hB.size, he, hl, fun j x hx i v hv => (hB.cell (p := ⟨b, j * R.k + i, none⟩) hb).trans (hc j x hx i v hv)⟩
theorem REls.shape {α : Type} {R : RowOf α} {w : World} {sv : Value} {xs : List α} (h : REls R w sv xs) : ∃ a cap, sv = .slice a xs.length cap := by
 rcases h with ⟨he, rfl⟩ | ⟨b, cap, _, he, _⟩
 ·exact he.shape
 ·exact ⟨_, _, he⟩
theorem REls.len {α : Type} {R : RowOf α} {w : World} {a : Option Addr} {n cap : Nat} {xs : List α} (h : REls R w (.slice a n cap) xs) : n = xs.length := by
 obtain ⟨a, c, he⟩ := h.shape
 cases he
 rfl
theorem REls.get {α : Type} {R : RowOf α} {w : World} {a : Option Addr} {n cap : Nat} {xs : List α} (h : REls R w (.slice a n cap) xs) {j : Nat} (hj : j < n) :
  ∃ b, a = some ⟨b, 0, none⟩ ∧ b < w.heap.size ∧ n ≤ cap ∧ ∀ j x, xs[j]? = some x → ∀ i v, (R.cells x)[i]? = some v → w.cell? ⟨b, j * R.k + i, none⟩ = some v := by
 rcases h with ⟨he, rfl⟩ | ⟨b, c, hb, he, hl, hc⟩
 ·obtain ⟨a, c, he⟩ := he.shape
  cases he
  omega
 ·cases he
  exact ⟨b, rfl, hb, hl, hc⟩
def ROwn {α : Type} (R : RowOf α) (E : TypeId) (B : Nat) (w : World) (sv : Value) (xs : List α) : Prop := w.ownsRow B E R.k sv xs.length (xs.flatMap R.cells)
theorem ROwn.below {α : Type} {R : RowOf α} {E : TypeId} {B : Nat} {w W : World} {sv : Value} {xs : List α} (h : ROwn R E B w sv xs) (hB : Below w.heap.size w W) : ROwn R E B W sv xs := owns_below h hB
theorem ROwn.base {α : Type} {R : RowOf α} {E : TypeId} {B B' : Nat} {w : World} {sv : Value} {xs : List α} (h : ROwn R E B w sv xs) (hB : B' ≤ B) : ROwn R E B' w sv xs := by
 obtain ⟨h1, h2 | ⟨g, cap, cur, hv, hg, r⟩⟩ := h
 ·exact ⟨h1, .inl h2⟩
 ·exact ⟨h1, .inr ⟨g, cap, cur, hv, Nat.le_trans hB hg, r⟩⟩
theorem ROwn.els {α : Type} {R : RowOf α} {E : TypeId} {B : Nat} {w : World} {sv : Value} {xs : List α} (h : ROwn R E B w sv xs) : REls R w sv xs := by
 obtain ⟨h1, ⟨hv, hn⟩ | ⟨g, cap, cur, hv, hg, hh, hcap, hmax, hsz, htk⟩⟩ := h
 ·exact .inl ⟨.inl hv, List.eq_nil_of_length_eq_zero hn⟩
 ·refine .inr ⟨g, cap, (Array.getElem?_eq_some_iff.1 hh).1, hv, hcap, fun j x hx i v hvv => ?_⟩
  have hi : i < R.k := by rw [← R.len x]; exact (List.getElem?_eq_some_iff.1 hvv).1
  have hjl := (List.getElem?_eq_some_iff.1 hx).1
  have hat := R.at xs j x hx i hi
  rw [← htk, hvv, List.getElem?_take] at hat
  have hlt : j * R.k + i < xs.length * R.k := by
   have : (j + 1) * R.k ≤ xs.length * R.k := Nat.mul_le_mul_right _ hjl
   rw [Nat.succ_mul] at this
   omega
  rw [if_pos hlt] at hat
  unfold World.cell?
  simp only [hh]
  rw [← Array.getElem?_toList]
  exact hat
theorem ROwn.nil {α : Type} (R : RowOf α) (E : TypeId) (B : Nat) (w : World) : ROwn R E B w (.slice none 0 0) [] := World.ownsRow_nil _ _ _ _
theorem ROwn.slice {α : Type} {R : RowOf α} {E : TypeId} {B : Nat} {w : World} {v : Value} {xs : List α} (h : ROwn R E B w v xs) :
  ∃ a n c, v = .slice a n c ∧ Hid (n = xs.length) ∧ Hid (ROwn R E B w (.slice a n c) xs) := by
 obtain ⟨a, c, rfl⟩ := h.els.shape
 exact ⟨a, _, c, rfl, rfl, h⟩
theorem ROwn.cap {α : Type} {R : RowOf α} {E : TypeId} {B : Nat} {w : World} {sv : Value} {xs : List α} (h : ROwn R E B w sv xs) : ∀ a l c, sv = .slice a l c → c ≤ maxLen := by
 intro a l c e
 subst e
 obtain ⟨_, ⟨hv, _⟩ | ⟨g, cap, cur, hv, _, _, _, hm, _⟩⟩ := h
 ·cases hv; unfold maxLen; omega
 ·cases hv; exact hm
theorem ROwn.new {α : Type} (R : RowOf α) (E : TypeId) (w : World) (xs : List α) (cs : Array Value) (hcs : cs.toList = xs.flatMap R.cells) (hl : xs.length ≤ maxLen) :
  ROwn R E w.heap.size (w.alloc (.cells cs E)) (.slice (some ⟨w.heap.size, 0, none⟩) xs.length xs.length) xs := by
 refine ⟨R.flat xs, .inr ⟨w.heap.size, xs.length, cs, rfl, Nat.le_refl _, heap_new w _, Nat.le_refl _, hl, ?_, ?_⟩⟩
 ·rw [← Array.length_toList, hcs, R.flat]
 ·rw [hcs, List.take_of_length_le (by rw [R.flat]; exact Nat.le_refl _)]
theorem REls.flat {α : Type} {R : RowOf α} {w : World} {b n cap : Nat} {xs : List α} (h : REls R w (.slice (some ⟨b, 0, none⟩) n cap) xs) (j : Nat) (u : Value) (hu : (xs.flatMap R.cells)[j]? = some u) : w.cell? ⟨b, 0 + j, none⟩ = some u := by
 have hp := R.pos
 have hj : j < xs.length * R.k := by rw [← R.flat]; exact (List.getElem?_eq_some_iff.1 hu).1
 have hq : j / R.k < xs.length := (Nat.div_lt_iff_lt_mul hp).2 hj
 have hx : xs[j / R.k]? = some xs[j / R.k] := List.getElem?_eq_getElem hq
 have e : j / R.k * R.k + j % R.k = j := by rw [Nat.mul_comm]; exact Nat.div_add_mod j R.k
 have hat := R.at xs _ _ hx (j % R.k) (Nat.mod_lt _ hp)
 rw [e, hu] at hat
 rcases h with ⟨_, rfl⟩ | ⟨b', c, hb, he, hl, hc⟩
 ·simp at hq
 ·cases he
  have := hc _ _ hx (j % R.k) u hat.symm
  rw [e] at this
  rw [Nat.zero_add]
  exact this
end Go.Proofs.YtgnloodmbgdgdaaGreat
