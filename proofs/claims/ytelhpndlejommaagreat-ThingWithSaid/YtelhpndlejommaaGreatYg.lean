/- Things made by a call: rows of numbers, values and things behind a box. -/
import Derived.Test.YtelhpndlejommaaGreatZd
namespace Go.Proofs.YtelhpndlejommaaGreat
open Go.RowKit Go.Shelf

/-- Numbers in a row. -/
def RIn : RowOf Int where
  cells x := [.int .i64 x]
  k := 1
  len _ := rfl
  one x v h := by simp at h; rw [h]; rfl
  pos := by decide

/-- The three slices of a thing, as they lie. -/
structure Tr where
  a1 : Option Addr
  n1 : Nat
  c1 : Nat
  a2 : Option Addr
  n2 : Nat
  c2 : Nat
  a3 : Option Addr
  n3 : Nat
  c3 : Nat

def RTh : RowOf Tr where
  cells x := [.slice x.a1 x.n1 x.c1, .slice x.a2 x.n2 x.c2, .slice x.a3 x.n3 x.c3]
  k := 3
  len _ := rfl
  one x v h := by simp at h; rcases h with rfl | rfl | rfl <;> rfl
  pos := by decide

/-- A slice in blocks of which S holds, or without elements. -/
def InS (S : Nat → Prop) (v : Value) : Prop := Emp v ∨ ∃ b off n cap, S b ∧ v = .slice (some ⟨b, off, none⟩) n cap

theorem InS.mono {S S' : Nat → Prop} {v : Value} (h : InS S v) (hs : ∀ b, S b → S' b) : InS S' v := by
  rcases h with h | ⟨b, off, n, cap, hb, h⟩
  · exact .inl h
  · exact .inr ⟨b, off, n, cap, hs b hb, h⟩

theorem InS.low {S : Nat → Prop} {v : Value} {B : Nat} (h : InS S v) (hs : ∀ b, S b → b < B) : LowEls B v := by
  rcases h with h | ⟨b, off, n, cap, hb, h⟩
  · exact .inl h
  · exact .inr ⟨b, off, n, cap, hs b hb, h⟩

/-- Blocks of which S holds stay as they are. -/
def KeepS (S : Nat → Prop) (w w' : World) : Prop := w.heap.size ≤ w'.heap.size ∧ ∀ b, S b → b < w.heap.size → w'.heap[b]? = w.heap[b]?

theorem Els.keepS {S : Nat → Prop} {k : IntKind} {w w' : World} {sv : Value} {zs : List Int} (h : Els k w sv zs) (hl : InS S sv) (hk : KeepS S w w') : Els k w' sv zs := by
  rcases h with ⟨he, hz⟩ | ⟨b, off, cap, hb, rfl, hle, hc⟩
  · exact .inl ⟨he, hz⟩
  · have hb2 := Nat.lt_of_lt_of_le hb hk.1
    rcases hl with he | ⟨b2, off2, n2, cap2, hlt, he⟩
    · refine .inr ⟨b, off, cap, hb2, rfl, hle, ?_⟩
      intro j hj
      rcases he with he | ⟨x, c2, he⟩
      · cases he
      · simp only [Value.slice.injEq] at he
        omega
    · cases he
      exact .inr ⟨b, off, cap, hb2, rfl, hle, fun j hj => (cell_of_block (hk.2 b hlt hb) _).trans (hc j hj)⟩

theorem REls.keepS {S : Nat → Prop} {α : Type} {R : RowOf α} {w w' : World} {sv : Value} {xs : List α} (h : REls R w sv xs) (hl : InS S sv) (hk : KeepS S w w') : REls R w' sv xs := by
  rcases h with ⟨he, hz⟩ | ⟨b, cap, hb, rfl, hle, hc⟩
  · exact .inl ⟨he, hz⟩
  · have hb2 := Nat.lt_of_lt_of_le hb hk.1
    rcases hl with he | ⟨b2, off2, n2, cap2, hlt, he⟩
    · refine .inr ⟨b, cap, hb2, rfl, hle, ?_⟩
      intro j x hx
      have hj := (List.getElem?_eq_some_iff.1 hx).1
      rcases he with he | ⟨x, c2, he⟩
      · cases he
      · simp only [Value.slice.injEq] at he
        omega
    · cases he
      exact .inr ⟨b, cap, hb2, rfl, hle, fun j x hx i v hv => (cell_of_block (hk.2 b hlt hb) _).trans (hc j x hx i v hv)⟩

mutual
/-- The thing lies in blocks of which S holds. -/
def TS (S : Nat → Prop) (w : World) : Th → Value → Value → Value → Prop
  | .mk cs vs ps, a, b, c => (Els .i64 w a cs ∧ InS S a) ∧ (REls RVa w b vs ∧ InS S b) ∧ ((Emp c ∧ ps = []) ∨ ∃ g cap, S g ∧ g < w.heap.size ∧ c = .slice (some ⟨g, 0, none⟩) ps.length cap ∧ ps.length ≤ cap ∧ PT S w ps g 0)
/-- The things lie in a row. -/
def PT (S : Nat → Prop) (w : World) : List Th → Nat → Nat → Prop
  | [], _, _ => True
  | t :: ts, g, o => (∃ a b c, w.cell? ⟨g, o, none⟩ = some a ∧ w.cell? ⟨g, o + 1, none⟩ = some b ∧ w.cell? ⟨g, o + 2, none⟩ = some c ∧ TS S w t a b c) ∧ PT S w ts g (o + 3)
end

/-- A slice of things. -/
def PSl (S : Nat → Prop) (w : World) (c : Value) (ps : List Th) : Prop := (Emp c ∧ ps = []) ∨ ∃ g cap, S g ∧ g < w.heap.size ∧ c = .slice (some ⟨g, 0, none⟩) ps.length cap ∧ ps.length ≤ cap ∧ PT S w ps g 0

theorem TS.parts {S : Nat → Prop} {w : World} {cs : List Int} {vs : List Va} {ps : List Th} {a b c : Value} (h : TS S w (.mk cs vs ps) a b c) : (Els .i64 w a cs ∧ InS S a) ∧ (REls RVa w b vs ∧ InS S b) ∧ PSl S w c ps := h

theorem TS.of {S : Nat → Prop} {w : World} {cs : List Int} {vs : List Va} {ps : List Th} {a b c : Value} (h1 : Els .i64 w a cs) (l1 : InS S a) (h2 : REls RVa w b vs) (l2 : InS S b) (h3 : PSl S w c ps) : TS S w (.mk cs vs ps) a b c := ⟨⟨h1, l1⟩, ⟨h2, l2⟩, h3⟩

mutual
theorem TS.keep {S S' : Nat → Prop} {w W : World} (hk : KeepS S w W) (hs : ∀ b, b < w.heap.size → S b → S' b) : ∀ (t : Th) {a b c : Value}, TS S w t a b c → TS (fun k => S' k ∧ k < W.heap.size) W t a b c
  | .mk cs vs ps, a, b, c, h => by
    obtain ⟨⟨h1, l1⟩, ⟨h2, l2⟩, h3⟩ := h.parts
    have r1 : InS (fun k => S' k ∧ k < W.heap.size) a := by
      rcases h1 with ⟨he, _⟩ | ⟨b, off, cap, hb, rfl, _, _⟩
      · exact .inl he
      · rcases l1 with l1 | ⟨b2, off2, n2, cap2, hlt, he⟩
        · exact .inl l1
        · cases he; exact .inr ⟨b, _, _, _, ⟨hs b hb hlt, Nat.lt_of_lt_of_le hb hk.1⟩, rfl⟩
    have r2 : InS (fun k => S' k ∧ k < W.heap.size) b := by
      rcases h2 with ⟨he, _⟩ | ⟨b, cap, hb, rfl, _, _⟩
      · exact .inl he
      · rcases l2 with l2 | ⟨b2, off2, n2, cap2, hlt, he⟩
        · exact .inl l2
        · cases he; exact .inr ⟨b, _, _, _, ⟨hs b hb hlt, Nat.lt_of_lt_of_le hb hk.1⟩, rfl⟩
    refine TS.of (h1.keepS l1 hk) r1 (h2.keepS l2 hk) r2 ?_
    rcases h3 with h3 | ⟨g, cap, hg, hgs, e, hl, hp⟩
    · exact .inl h3
    · exact .inr ⟨g, cap, ⟨hs g hgs hg, Nat.lt_of_lt_of_le hgs hk.1⟩, Nat.lt_of_lt_of_le hgs hk.1, e, hl, PT.keep hk hs ps hg hgs hp⟩
theorem PT.keep {S S' : Nat → Prop} {w W : World} (hk : KeepS S w W) (hs : ∀ b, b < w.heap.size → S b → S' b) : ∀ (ts : List Th) {g o : Nat}, S g → g < w.heap.size → PT S w ts g o → PT (fun k => S' k ∧ k < W.heap.size) W ts g o
  | [], _, _, _, _, _ => trivial
  | t :: ts, g, o, hg, hgs, h => by
    obtain ⟨⟨a, b, c, h1, h2, h3, h4⟩, h5⟩ := h
    have e := fun j => cell_of_block (hk.2 g hg hgs) j
    exact ⟨⟨a, b, c, (e _).trans h1, (e _).trans h2, (e _).trans h3, TS.keep hk hs t h4⟩, PT.keep hk hs ts hg hgs h5⟩
end

mutual
theorem TS.tat {S : Nat → Prop} {w : World} {B : Nat} (hs : ∀ b, S b → b < B) : ∀ (t : Th) {a b c : Value}, TS S w t a b c → TAt B w t a b c
  | .mk cs vs ps, a, b, c, h => by
    obtain ⟨⟨h1, l1⟩, ⟨h2, l2⟩, h3⟩ := h.parts
    refine TAt.of h1 (l1.low hs) h2 (l2.low hs) ?_
    rcases h3 with h3 | ⟨g, cap, hg, hgs, e, hl, hp⟩
    · exact .inl h3
    · exact .inr ⟨g, cap, hs g hg, hgs, e, hl, PT.tat hs ps hp⟩
theorem PT.tat {S : Nat → Prop} {w : World} {B : Nat} (hs : ∀ b, S b → b < B) : ∀ (ts : List Th) {g o : Nat}, PT S w ts g o → PAt B w ts g o
  | [], _, _, _ => trivial
  | t :: ts, g, o, h => by
    obtain ⟨⟨a, b, c, h1, h2, h3, h4⟩, h5⟩ := h
    exact ⟨⟨a, b, c, h1, h2, h3, TS.tat hs t h4⟩, PT.tat hs ts h5⟩
end

mutual
theorem TAt.ts {B : Nat} {w : World} : ∀ (t : Th) {a b c : Value}, TAt B w t a b c → TS (· < B) w t a b c
  | .mk cs vs ps, a, b, c, h => by
    obtain ⟨⟨h1, l1⟩, ⟨h2, l2⟩, h3⟩ := h.parts
    refine TS.of h1 l1 h2 l2 ?_
    rcases h3 with h3 | ⟨g, cap, hg, hgs, e, hl, hp⟩
    · exact .inl h3
    · exact .inr ⟨g, cap, hg, hgs, e, hl, PAt.ts ps hp⟩
theorem PAt.ts {B : Nat} {w : World} : ∀ (ts : List Th) {g o : Nat}, PAt B w ts g o → PT (· < B) w ts g o
  | [], _, _, _ => trivial
  | t :: ts, g, o, h => by
    obtain ⟨⟨a, b, c, h1, h2, h3, h4⟩, h5⟩ := h
    exact ⟨⟨a, b, c, h1, h2, h3, TAt.ts t h4⟩, PAt.ts ts h5⟩
end

theorem PT.get {S : Nat → Prop} {w : World} : ∀ (ts : List Th) {g o : Nat}, PT S w ts g o → ∀ (j : Nat) (t : Th), ts[j]? = some t → ∃ a b c, w.cell? ⟨g, o + j * 3, none⟩ = some a ∧ w.cell? ⟨g, o + j * 3 + 1, none⟩ = some b ∧ w.cell? ⟨g, o + j * 3 + 2, none⟩ = some c ∧ TS S w t a b c
  | [], _, _, _, j, t, hj => by simp at hj
  | u :: us, g, o, h, 0, t, hj => by
    simp at hj
    subst hj
    obtain ⟨⟨a, b, c, h1, h2, h3, h4⟩, _⟩ := h
    exact ⟨a, b, c, by simpa using h1, by simpa using h2, by simpa using h3, h4⟩
  | u :: us, g, o, h, j + 1, t, hj => by
    rw [List.getElem?_cons_succ] at hj
    have := PT.get us h.2 j t hj
    rw [show o + 3 + j * 3 = o + (j + 1) * 3 by omega] at this
    exact this

theorem PT.of_get {S : Nat → Prop} {w : World} : ∀ (ts : List Th) {g o : Nat}, (∀ (j : Nat) (t : Th), ts[j]? = some t → ∃ a b c, w.cell? ⟨g, o + j * 3, none⟩ = some a ∧ w.cell? ⟨g, o + j * 3 + 1, none⟩ = some b ∧ w.cell? ⟨g, o + j * 3 + 2, none⟩ = some c ∧ TS S w t a b c) → PT S w ts g o
  | [], _, _, _ => trivial
  | u :: us, g, o, h => by
    refine ⟨?_, PT.of_get us fun j t hj => ?_⟩
    · obtain ⟨a, b, c, h1, h2, h3, h4⟩ := h 0 u rfl
      exact ⟨a, b, c, by simpa using h1, by simpa using h2, by simpa using h3, h4⟩
    · have := h (j + 1) t (by rw [List.getElem?_cons_succ]; exact hj)
      rw [show o + (j + 1) * 3 = o + 3 + j * 3 by omega] at this
      exact this

theorem TS.shape {S : Nat → Prop} {w : World} {t : Th} {a b c : Value} (h : TS S w t a b c) : ∃ r : Tr, a = .slice r.a1 r.n1 r.c1 ∧ b = .slice r.a2 r.n2 r.c2 ∧ c = .slice r.a3 r.n3 r.c3 ∧ r.n1 = t.cs.length ∧ r.n2 = t.vs.length ∧ r.n3 = t.ps.length := by
  obtain ⟨cs, vs, ps⟩ := t
  obtain ⟨⟨h1, l1⟩, ⟨h2, l2⟩, h3⟩ := h.parts
  obtain ⟨a1, c1, e1⟩ := h1.shape
  obtain ⟨a2, c2, e2⟩ := h2.shape
  have h4 : ∃ a cap, c = .slice a ps.length cap := by
    rcases h3 with ⟨he, rfl⟩ | ⟨g, cap, _, _, he, _⟩
    · exact he.shape
    · exact ⟨_, _, he⟩
  obtain ⟨a3, c3, e3⟩ := h4
  exact ⟨⟨a1, _, c1, a2, _, c2, a3, _, c3⟩, e1, e2, e3, rfl, rfl, rfl⟩

/-- The row of a slice of things. -/
theorem PSl.rows {S : Nat → Prop} {w : World} {c : Value} {ps : List Th} (h : PSl S w c ps) : ∃ rs : List Tr, REls RTh w c rs ∧ InS S c ∧ rs.length = ps.length ∧ ∀ (j : Nat) (t : Th), ps[j]? = some t → ∃ r, rs[j]? = some r ∧ TS S w t (.slice r.a1 r.n1 r.c1) (.slice r.a2 r.n2 r.c2) (.slice r.a3 r.n3 r.c3) := by
  rcases h with ⟨he, rfl⟩ | ⟨g, cap, hg, hgs, rfl, hl, hp⟩
  · exact ⟨[], .inl ⟨he, rfl⟩, .inl he, rfl, fun j t h => by simp at h⟩
  · have key : ∀ j : Nat, j < ps.length → ∃ r : Tr, w.cell? ⟨g, j * 3, none⟩ = some (.slice r.a1 r.n1 r.c1) ∧ w.cell? ⟨g, j * 3 + 1, none⟩ = some (.slice r.a2 r.n2 r.c2) ∧ w.cell? ⟨g, j * 3 + 2, none⟩ = some (.slice r.a3 r.n3 r.c3) ∧ ∀ t, ps[j]? = some t → TS S w t (.slice r.a1 r.n1 r.c1) (.slice r.a2 r.n2 r.c2) (.slice r.a3 r.n3 r.c3) := fun j hj => by
      obtain ⟨a, b, c, q0, q1, q2, hT⟩ := PT.get ps hp j ps[j] (List.getElem?_eq_getElem hj)
      rw [Nat.zero_add] at q0 q1 q2
      obtain ⟨r, rfl, rfl, rfl, -⟩ := hT.shape
      exact ⟨r, q0, q1, q2, fun t ht => by rw [List.getElem?_eq_getElem hj] at ht; cases ht; exact hT⟩
    obtain ⟨f, hf⟩ : ∃ f : Nat → Tr, ∀ j : Nat, j < ps.length → w.cell? ⟨g, j * 3, none⟩ = some (.slice (f j).a1 (f j).n1 (f j).c1) ∧ w.cell? ⟨g, j * 3 + 1, none⟩ = some (.slice (f j).a2 (f j).n2 (f j).c2) ∧ w.cell? ⟨g, j * 3 + 2, none⟩ = some (.slice (f j).a3 (f j).n3 (f j).c3) ∧ ∀ t, ps[j]? = some t → TS S w t (.slice (f j).a1 (f j).n1 (f j).c1) (.slice (f j).a2 (f j).n2 (f j).c2) (.slice (f j).a3 (f j).n3 (f j).c3) :=
      ⟨fun j => if hj : j < ps.length then Classical.choose (key j hj) else ⟨none, 0, 0, none, 0, 0, none, 0, 0⟩, fun j hj => by simp only [dif_pos hj]; exact Classical.choose_spec (key j hj)⟩
    refine ⟨(List.range ps.length).map f, .inr ⟨g, cap, hgs, by simp, by simpa using hl, fun j r hr i v hv => ?_⟩, .inr ⟨g, 0, _, cap, hg, rfl⟩, by simp, fun j t ht => ?_⟩
    · have hj : j < ps.length := by have := (List.getElem?_eq_some_iff.1 hr).1; simpa using this
      rw [List.getElem?_map, List.getElem?_range hj] at hr
      simp only [Option.map_some, Option.some.injEq] at hr
      subst hr
      obtain ⟨q0, q1, q2, -⟩ := hf j hj
      show w.cell? ⟨g, j * 3 + i, none⟩ = _
      match i with
      | 0 => cases hv; exact q0
      | 1 => cases hv; exact q1
      | 2 => cases hv; exact q2
      | i + 3 => simp [RTh] at hv
    · have hj := (List.getElem?_eq_some_iff.1 ht).1
      exact ⟨f j, by rw [List.getElem?_map, List.getElem?_range hj]; rfl, (hf j hj).2.2.2 t ht⟩

/-- A slice of things, of its row. -/
theorem PSl.of {S : Nat → Prop} {w : World} {c : Value} {rs : List Tr} {ps : List Th} (h : REls RTh w c rs) (hS : InS S c) (hl : rs.length = ps.length) (hT : ∀ (j : Nat) (r : Tr) (t : Th), rs[j]? = some r → ps[j]? = some t → TS S w t (.slice r.a1 r.n1 r.c1) (.slice r.a2 r.n2 r.c2) (.slice r.a3 r.n3 r.c3)) : PSl S w c ps := by
  rcases h with ⟨he, rfl⟩ | ⟨g, cap, hgs, rfl, hle, hc⟩
  · exact .inl ⟨he, List.eq_nil_of_length_eq_zero (by simpa using hl.symm)⟩
  · by_cases h0 : rs.length = 0
    · exact .inl ⟨by rw [h0]; exact .inr ⟨_, cap, rfl⟩, List.eq_nil_of_length_eq_zero (by omega)⟩
    · rcases hS with he | ⟨b, off, n, c2, hb, he⟩
      · rcases he with he | ⟨x, c2, he⟩
        · cases he
        · simp only [Value.slice.injEq] at he; omega
      · cases he
        refine .inr ⟨g, cap, hb, hgs, by rw [hl], by omega, PT.of_get ps fun j t ht => ?_⟩
        have hj := (List.getElem?_eq_some_iff.1 ht).1
        have hr : rs[j]? = some rs[j] := List.getElem?_eq_getElem (by omega)
        have q := hc j _ hr
        rw [Nat.zero_add]
        exact ⟨_, _, _, q 0 _ rfl, q 1 _ rfl, q 2 _ rfl, hT j _ t hr ht⟩

end Go.Proofs.YtelhpndlejommaaGreat
