/- Rows of elements of several cells each: slices of structs, over whatever element type. -/
import Derived.Test.YtelhpndlejommaaGreatKit
import Derived.Maps.AppendAt
namespace Go.Proofs.YtelhpndlejommaaGreat
open Go.RowKit

/-- How elements lie in cells. -/
structure RowOf (α : Type) where
  cells : α → List Value
  k : Nat
  len : ∀ x, (cells x).length = k
  one : ∀ x, ∀ v ∈ cells x, v.oneCell' = true
  pos : 0 < k

theorem RowOf.flat {α : Type} (R : RowOf α) (xs : List α) : (xs.flatMap R.cells).length = xs.length * R.k := by
  induction xs with
  | nil => simp
  | cons x xs ih => rw [List.flatMap_cons, List.length_append, ih, R.len, List.length_cons, Nat.succ_mul]; omega

theorem RowOf.at {α : Type} (R : RowOf α) (xs : List α) : ∀ (j : Nat) (x : α), xs[j]? = some x → ∀ i, i < R.k → (xs.flatMap R.cells)[j * R.k + i]? = (R.cells x)[i]? := by
  induction xs with
  | nil => intro j x h; simp at h
  | cons y xs ih =>
    intro j x h i hi
    rw [List.flatMap_cons]
    cases j with
    | zero =>
      simp at h
      subst h
      rw [Nat.zero_mul, Nat.zero_add, List.getElem?_append_left (by rw [R.len]; exact hi)]
    | succ j =>
      simp at h
      rw [List.getElem?_append_right (by rw [R.len, Nat.succ_mul]; omega), R.len, show (j + 1) * R.k + i - R.k = j * R.k + i by rw [Nat.succ_mul]; omega]
      exact ih j x h i hi

/-- The slice sv holds the elements xs, from a block's head on; or there are none. -/
def REls {α : Type} (R : RowOf α) (w : World) (sv : Value) (xs : List α) : Prop :=
  (Emp sv ∧ xs = []) ∨ ∃ b cap, b < w.heap.size ∧ sv = .slice (some ⟨b, 0, none⟩) xs.length cap ∧ xs.length ≤ cap ∧ ∀ j x, xs[j]? = some x → ∀ i v, (R.cells x)[i]? = some v → w.cell? ⟨b, j * R.k + i, none⟩ = some v

theorem REls.below {α : Type} {R : RowOf α} {w W : World} (hB : Below w.heap.size w W) {sv : Value} {xs : List α} : REls R w sv xs → REls R W sv xs
  | .inl h => .inl h
  | .inr ⟨b, cap, hb, he, hl, hc⟩ => .inr ⟨b, cap, Nat.lt_of_lt_of_le hb hB.size, he, hl, fun j x hx i v hv => (hB.cell (p := ⟨b, j * R.k + i, none⟩) hb).trans (hc j x hx i v hv)⟩

theorem REls.shape {α : Type} {R : RowOf α} {w : World} {sv : Value} {xs : List α} (h : REls R w sv xs) : ∃ a cap, sv = .slice a xs.length cap := by
  rcases h with ⟨he, rfl⟩ | ⟨b, cap, _, he, _⟩
  · exact he.shape
  · exact ⟨_, _, he⟩

theorem REls.len {α : Type} {R : RowOf α} {w : World} {a : Option Addr} {n cap : Nat} {xs : List α} (h : REls R w (.slice a n cap) xs) : n = xs.length := by
  obtain ⟨a, c, he⟩ := h.shape
  cases he
  rfl

/-- What there is at an index. -/
theorem REls.get {α : Type} {R : RowOf α} {w : World} {a : Option Addr} {n cap : Nat} {xs : List α} (h : REls R w (.slice a n cap) xs) {j : Nat} (hj : j < n) :
    ∃ b, a = some ⟨b, 0, none⟩ ∧ b < w.heap.size ∧ n ≤ cap ∧ ∀ j x, xs[j]? = some x → ∀ i v, (R.cells x)[i]? = some v → w.cell? ⟨b, j * R.k + i, none⟩ = some v := by
  rcases h with ⟨he, rfl⟩ | ⟨b, c, hb, he, hl, hc⟩
  · obtain ⟨a, c, he⟩ := he.shape
    cases he
    omega
  · cases he
    exact ⟨b, rfl, hb, hl, hc⟩

/-- A slice of the call's own. -/
def ROwn {α : Type} (R : RowOf α) (E : TypeId) (B : Nat) (w : World) (sv : Value) (xs : List α) : Prop := w.ownsRow B E R.k sv xs.length (xs.flatMap R.cells)

theorem ROwn.below {α : Type} {R : RowOf α} {E : TypeId} {B : Nat} {w W : World} {sv : Value} {xs : List α} (h : ROwn R E B w sv xs) (hB : Below w.heap.size w W) : ROwn R E B W sv xs := owns_below h hB

theorem ROwn.base {α : Type} {R : RowOf α} {E : TypeId} {B B' : Nat} {w : World} {sv : Value} {xs : List α} (h : ROwn R E B w sv xs) (hB : B' ≤ B) : ROwn R E B' w sv xs := by
  obtain ⟨h1, h2 | ⟨g, cap, cur, hv, hg, r⟩⟩ := h
  · exact ⟨h1, .inl h2⟩
  · exact ⟨h1, .inr ⟨g, cap, cur, hv, Nat.le_trans hB hg, r⟩⟩

theorem ROwn.els {α : Type} {R : RowOf α} {E : TypeId} {B : Nat} {w : World} {sv : Value} {xs : List α} (h : ROwn R E B w sv xs) : REls R w sv xs := by
  obtain ⟨h1, ⟨hv, hn⟩ | ⟨g, cap, cur, hv, hg, hh, hcap, hmax, hsz, htk⟩⟩ := h
  · exact .inl ⟨.inl hv, List.eq_nil_of_length_eq_zero hn⟩
  · refine .inr ⟨g, cap, (Array.getElem?_eq_some_iff.1 hh).1, hv, hcap, fun j x hx i v hvv => ?_⟩
    have hi : i < R.k := by rw [← R.len x]; exact (List.getElem?_eq_some_iff.1 hvv).1
    have hjl := (List.getElem?_eq_some_iff.1 hx).1
    have hat := R.at xs j x hx i hi
    rw [← htk, hvv, List.getElem?_take] at hat
    have hlt : j * R.k + i < xs.length * R.k := by
      have : (j + 1) * R.k ≤ xs.length * R.k := Nat.mul_le_mul_right _ hjl
      rw [Nat.succ_mul] at this
      omega
    rw [if_pos hlt] at hat
    unfold World.cell?
    simp only [hh]
    rw [← Array.getElem?_toList]
    exact hat

theorem ROwn.nil {α : Type} (R : RowOf α) (E : TypeId) (B : Nat) (w : World) : ROwn R E B w (.slice none 0 0) [] := World.ownsRow_nil _ _ _ _

theorem ROwn.slice {α : Type} {R : RowOf α} {E : TypeId} {B : Nat} {w : World} {v : Value} {xs : List α} (h : ROwn R E B w v xs) :
    ∃ a n c, v = .slice a n c ∧ Hid (n = xs.length) ∧ Hid (ROwn R E B w (.slice a n c) xs) := by
  obtain ⟨a, c, rfl⟩ := h.els.shape
  exact ⟨a, _, c, rfl, rfl, h⟩

theorem ROwn.cap {α : Type} {R : RowOf α} {E : TypeId} {B : Nat} {w : World} {sv : Value} {xs : List α} (h : ROwn R E B w sv xs) : ∀ a l c, sv = .slice a l c → c ≤ maxLen := by
  intro a l c e
  subst e
  obtain ⟨_, ⟨hv, _⟩ | ⟨g, cap, cur, hv, _, _, _, hm, _⟩⟩ := h
  · cases hv; unfold maxLen; omega
  · cases hv; exact hm

/-- A slice that was just written out. -/
theorem ROwn.new {α : Type} (R : RowOf α) (E : TypeId) (w : World) (xs : List α) (cs : Array Value) (hcs : cs.toList = xs.flatMap R.cells) (hl : xs.length ≤ maxLen) :
    ROwn R E w.heap.size (w.alloc (.cells cs E)) (.slice (some ⟨w.heap.size, 0, none⟩) xs.length xs.length) xs := by
  refine ⟨R.flat xs, .inr ⟨w.heap.size, xs.length, cs, rfl, Nat.le_refl _, heap_new w _, Nat.le_refl _, hl, ?_, ?_⟩⟩
  · rw [← Array.length_toList, hcs, R.flat]
  · rw [hcs, List.take_of_length_le (by rw [R.flat]; exact Nat.le_refl _)]

/-- What a call that makes a slice leaves. -/
def RMakes {α : Type} (R : RowOf α) (E : TypeId) (xs : List α) (w : World) (e : Ending) (w' : World) : Prop :=
  ∃ a n c, e = .returned (.slice a n c) ∧ Hid (n = xs.length) ∧ ROwn R E w.heap.size w' (.slice a n c) xs ∧ Hid (Below w.heap.size w w')

theorem rmakes_of {α : Type} {R : RowOf α} {E : TypeId} {xs : List α} {w w' : World} {a : Option Addr} {n c : Nat} (h : ROwn R E w.heap.size w' (.slice a n c) xs) (hB : Below w.heap.size w w') : RMakes R E xs w (.returned (.slice a n c)) w' :=
  ⟨a, n, c, rfl, h.els.len, h, hB⟩

/-- Elements appended to a slice of the call's own: the law at the operation. -/
theorem push_row {P : Program} {ops : Array Oper} {rest : List Oper} {o : Oper} {act : Act} {Q : Exit → Act → World → Prop} {w : World} (hgd : o.guard = none) (s x : Operand) (t : TypeId)
    (ho : o.op = .call { callee := .builtin .append, args := #[s, x], argTypes := #[t, t] }) {α : Type} (R : RowOf α) (e : TypeId) (bytes : Nat) (z : Value) (ht : P.underlying t = some (.slice e))
    (info : (P.info? e).map (fun i => (i.zero, i.size, i.bytes)) = some (some z, R.k, bytes)) (hzc : z.cells.size = R.k) (hby : bytes ≤ 1000) (B : Nat) (v : Value) (xs ns : List α) (cs : Array Value) (T : TypeId) (hcs : cs.toList = ns.flatMap R.cells)
    (hs : act.eval s = v) (g0 m : Nat) (hg0 : w.heap.size = g0) (hm : m = ns.length) (hx : act.eval x = .slice (some ⟨g0, 0, none⟩) m m) (hown : ROwn R e B w v xs) (hB : B ≤ w.heap.size) (hl : xs.length + m ≤ 1000000000)
    (h : ∀ a n c w', Hid (n = xs.length + m) → Hid (ROwn R e B w' (.slice a n c) (xs ++ ns)) → Hid (Below B w w') → wpList P ops Q rest (act.put o.dst (.slice a n c)) w') :
    wpList P ops Q (o :: rest) act (w.alloc (.cells cs T)) := by
  subst hg0
  subst hm
  obtain ⟨i0, hi, hz0, hz1, hz2⟩ := info_parts info
  have hw := hown.below ((Below.refl _ w).alloc (Nat.le_refl _) (.cells cs T))
  refine wpList_append_own_at _ hgd s x t ho B e i0 z R.k bytes ht hi hz0 hz1 hz2 hzc R.pos v xs.length _ hs hw ⟨w.heap.size, 0, none⟩ ns.length ns.length (ns.flatMap R.cells) hx (R.flat ns) ?_ ?_ (by unfold maxLen; omega) ?_ (by simp; omega) ?_
  · intro j u hu
    rw [← hcs] at hu
    have e : (⟨w.heap.size, 0, none⟩ : Addr).add j = ⟨w.heap.size, j, none⟩ := by by_cases h : j = 0 <;> simp [Addr.add, h]
    rw [e]
    have hb := heap_new w (.cells cs T)
    unfold World.cell?
    simp only [hb]
    rw [Array.getElem?_toList] at hu
    exact hu
  · intro u hu
    obtain ⟨t, _, hu⟩ := List.mem_flatMap.1 hu
    exact R.one t u hu
  · have : (xs.length + ns.length) * bytes ≤ (xs.length + ns.length) * 1000 := Nat.mul_le_mul_left _ hby
    omega
  · intro v' w1 hO hG _ _
    have hbl : Below B w w1 := (((Below.refl B w).alloc hB _).grown hG (by simp; omega) fun j hj => (World.ownsRow.lt hw j hj).1)
    have hO' : ROwn R e B w1 v' (xs ++ ns) := by
      unfold ROwn
      rw [List.length_append, List.flatMap_append]
      exact hO
    obtain ⟨a, n, c, rfl, hn, hO⟩ := hO'.slice
    refine h a n c w1 ?_ hO hbl
    have := hn.out
    rw [List.length_append] at this
    exact this

/-- A slice's elements appended to a slice of the call's own: the law at the operation. -/
theorem push_rows {P : Program} {ops : Array Oper} {rest : List Oper} {o : Oper} {act : Act} {Q : Exit → Act → World → Prop} {w : World} (hgd : o.guard = none) (s x : Operand) (t : TypeId)
    (ho : o.op = .call { callee := .builtin .append, args := #[s, x], argTypes := #[t, t] }) {α : Type} (R : RowOf α) (e : TypeId) (bytes : Nat) (z : Value) (ht : P.underlying t = some (.slice e))
    (info : (P.info? e).map (fun i => (i.zero, i.size, i.bytes)) = some (some z, R.k, bytes)) (hzc : z.cells.size = R.k) (hby : bytes ≤ 1000) (B : Nat) (v : Value) (xs ns : List α)
    (hs : act.eval s = v) (b off m c0 : Nat) (hm : m = ns.length) (hx : act.eval x = .slice (some ⟨b, off, none⟩) m c0) (hown : ROwn R e B w v xs) (hB : B ≤ w.heap.size) (hl : xs.length + m ≤ 1000000000)
    (hcell : ∀ j u, (ns.flatMap R.cells)[j]? = some u → w.cell? ⟨b, off + j, none⟩ = some u)
    (h : ∀ a n c w', Hid (n = xs.length + m) → Hid (ROwn R e B w' (.slice a n c) (xs ++ ns)) → Hid (Below B w w') → wpList P ops Q rest (act.put o.dst (.slice a n c)) w') :
    wpList P ops Q (o :: rest) act w := by
  subst hm
  obtain ⟨i0, hi, hz0, hz1, hz2⟩ := info_parts info
  refine wpList_append_own_at _ hgd s x t ho B e i0 z R.k bytes ht hi hz0 hz1 hz2 hzc R.pos v xs.length _ hs hown ⟨b, off, none⟩ ns.length c0 (ns.flatMap R.cells) hx (R.flat ns) ?_ ?_ (by unfold maxLen; omega) ?_ hB ?_
  · intro j u hu
    have e : (⟨b, off, none⟩ : Addr).add j = ⟨b, off + j, none⟩ := by by_cases h : j = 0 <;> simp [Addr.add, h]
    rw [e]
    exact hcell j u hu
  · intro u hu
    obtain ⟨t, _, hu⟩ := List.mem_flatMap.1 hu
    exact R.one t u hu
  · have : (xs.length + ns.length) * bytes ≤ (xs.length + ns.length) * 1000 := Nat.mul_le_mul_left _ hby
    omega
  · intro v' w1 hO hG _ _
    have hbl : Below B w w1 := (Below.refl B w).grown hG hB fun j hj => (World.ownsRow.lt hown j hj).1
    have hO' : ROwn R e B w1 v' (xs ++ ns) := by
      unfold ROwn
      rw [List.length_append, List.flatMap_append]
      exact hO
    obtain ⟨a, n, c, rfl, hn, hO⟩ := hO'.slice
    refine h a n c w1 ?_ hO hbl
    have := hn.out
    rw [List.length_append] at this
    exact this

/-- The cells of a row, for an append of its elements. -/
theorem REls.flat {α : Type} {R : RowOf α} {w : World} {b n cap : Nat} {xs : List α} (h : REls R w (.slice (some ⟨b, 0, none⟩) n cap) xs) (j : Nat) (u : Value) (hu : (xs.flatMap R.cells)[j]? = some u) : w.cell? ⟨b, 0 + j, none⟩ = some u := by
  have hp := R.pos
  have hj : j < xs.length * R.k := by rw [← R.flat]; exact (List.getElem?_eq_some_iff.1 hu).1
  have hq : j / R.k < xs.length := (Nat.div_lt_iff_lt_mul hp).2 hj
  have hx : xs[j / R.k]? = some xs[j / R.k] := List.getElem?_eq_getElem hq
  have e : j / R.k * R.k + j % R.k = j := by rw [Nat.mul_comm]; exact Nat.div_add_mod j R.k
  have hat := R.at xs _ _ hx (j % R.k) (Nat.mod_lt _ hp)
  rw [e, hu] at hat
  rcases h with ⟨_, rfl⟩ | ⟨b', c, hb, he, hl, hc⟩
  · simp at hq
  · cases he
    have := hc _ _ hx (j % R.k) u hat.symm
    rw [e] at this
    rw [Nat.zero_add]
    exact this

end Go.Proofs.YtelhpndlejommaaGreat
