/- Things as values: classes, values, parts. -/
import Derived.Test.YtelhpndlejommaaGreatRow
import Derived.Test.YtelhpndlejommaaGreatWire
namespace Go.Proofs.YtelhpndlejommaaGreat
open Go.RowKit

/-- A value of an attribute: the attribute, numerator, denominator. -/
structure Va where
  t : Int
  n : Int
  d : Int
deriving DecidableEq, Inhabited

def RVa : RowOf Va where
  cells x := [.int .i64 x.t, .int .i64 x.n, .int .i64 x.d]
  k := 3
  len _ := rfl
  one x v h := by simp at h; rcases h with rfl | rfl | rfl <;> rfl
  pos := by decide

def Va.v (x : Va) : Value := .agg #[.int .i64 x.t, .int .i64 x.n, .int .i64 x.d]

/-- A thing. -/
inductive Th where
  | mk (cs : List Int) (vs : List Va) (ps : List Th)

def Th.cs : Th → List Int | .mk cs _ _ => cs
def Th.vs : Th → List Va | .mk _ vs _ => vs
def Th.ps : Th → List Th | .mk _ _ ps => ps

mutual
/-- The nodes of a thing. -/
def Th.size : Th → Nat
  | .mk _ _ ps => 1 + Th.sizes ps
def Th.sizes : List Th → Nat
  | [] => 0
  | t :: ts => t.size + Th.sizes ts
end

mutual
/-- The nesting of a thing. -/
def Th.deep : Th → Nat
  | .mk _ _ ps => Th.deeps ps + 1
def Th.deeps : List Th → Nat
  | [] => 0
  | t :: ts => max t.deep (Th.deeps ts)
end

theorem Th.size_pos (t : Th) : 1 ≤ t.size := by
  cases t
  rw [Th.size]
  omega

theorem Th.sizes_append (a b : List Th) : Th.sizes (a ++ b) = Th.sizes a + Th.sizes b := by
  induction a with
  | nil => simp [Th.sizes]
  | cons t ts ih => rw [List.cons_append, Th.sizes, Th.sizes, ih]; omega

theorem Th.deeps_append (a b : List Th) : Th.deeps (a ++ b) = max (Th.deeps a) (Th.deeps b) := by
  induction a with
  | nil => simp [Th.deeps]
  | cons t ts ih => rw [List.cons_append, Th.deeps, Th.deeps, ih]; omega

theorem Th.sizes_mem {ts : List Th} {t : Th} (h : t ∈ ts) : t.size ≤ Th.sizes ts := by
  induction ts with
  | nil => cases h
  | cons u us ih =>
    rw [Th.sizes]
    rcases List.mem_cons.1 h with rfl | h
    · omega
    · have := ih h; omega

theorem Th.sizes_take (ts : List Th) (k : Nat) : Th.sizes (ts.take k) ≤ Th.sizes ts := by
  have := Th.sizes_append (ts.take k) (ts.drop k)
  rw [List.take_append_drop] at this
  omega

theorem Th.sizes_len (ts : List Th) : ts.length ≤ Th.sizes ts := by
  induction ts with
  | nil => simp
  | cons u us ih =>
    rw [Th.sizes, List.length_cons]
    have := u.size_pos
    omega

theorem Th.sizes_snoc {ts : List Th} {k : Nat} {t : Th} (h : ts[k]? = some t) : Th.sizes (ts.take (k + 1)) = Th.sizes (ts.take k) + t.size := by
  rw [List.take_add_one, h, Th.sizes_append]
  simp [Th.sizes]

theorem Th.deeps_snoc {ts : List Th} {k : Nat} {t : Th} (h : ts[k]? = some t) : Th.deeps (ts.take (k + 1)) = max (Th.deeps (ts.take k)) t.deep := by
  rw [List.take_add_one, h, Th.deeps_append]
  simp [Th.deeps]

mutual
theorem Th.deep_size : ∀ t : Th, t.deep ≤ t.size
  | .mk _ _ ps => by
    have := Th.deeps_sizes ps
    rw [Th.deep, Th.size]
    omega
theorem Th.deeps_sizes : ∀ ts : List Th, Th.deeps ts ≤ Th.sizes ts
  | [] => by simp [Th.deeps]
  | t :: ts => by
    have h1 := Th.deep_size t
    have h2 := Th.deeps_sizes ts
    rw [Th.deeps, Th.sizes]
    omega
end

mutual
/-- The thing lies in blocks below B, behind three slices. -/
def TAt (B : Nat) (w : World) : Th → Value → Value → Value → Prop
  | .mk cs vs ps, a, b, c => (Els .i64 w a cs ∧ LowEls B a) ∧ (REls RVa w b vs ∧ LowEls B b) ∧ ((Emp c ∧ ps = []) ∨ ∃ g cap, g < B ∧ g < w.heap.size ∧ c = .slice (some ⟨g, 0, none⟩) ps.length cap ∧ ps.length ≤ cap ∧ PAt B w ps g 0)
/-- The things lie in a row. -/
def PAt (B : Nat) (w : World) : List Th → Nat → Nat → Prop
  | [], _, _ => True
  | t :: ts, g, o => (∃ a b c, w.cell? ⟨g, o, none⟩ = some a ∧ w.cell? ⟨g, o + 1, none⟩ = some b ∧ w.cell? ⟨g, o + 2, none⟩ = some c ∧ TAt B w t a b c) ∧ PAt B w ts g (o + 3)
end

/-- A slice of things. -/
def Ps (B : Nat) (w : World) (c : Value) (ps : List Th) : Prop := (Emp c ∧ ps = []) ∨ ∃ g cap, g < B ∧ g < w.heap.size ∧ c = .slice (some ⟨g, 0, none⟩) ps.length cap ∧ ps.length ≤ cap ∧ PAt B w ps g 0

theorem TAt.parts {B : Nat} {w : World} {cs : List Int} {vs : List Va} {ps : List Th} {a b c : Value} (h : TAt B w (.mk cs vs ps) a b c) : (Els .i64 w a cs ∧ LowEls B a) ∧ (REls RVa w b vs ∧ LowEls B b) ∧ Ps B w c ps := h

theorem TAt.of {B : Nat} {w : World} {cs : List Int} {vs : List Va} {ps : List Th} {a b c : Value} (h1 : Els .i64 w a cs) (l1 : LowEls B a) (h2 : REls RVa w b vs) (l2 : LowEls B b) (h3 : Ps B w c ps) : TAt B w (.mk cs vs ps) a b c := ⟨⟨h1, l1⟩, ⟨h2, l2⟩, h3⟩

theorem REls.low {α : Type} {R : RowOf α} {p : Nat} {w w' : World} {sv : Value} {xs : List α} (h : REls R w sv xs) (hl : LowEls p sv) (hB : Below p w w') : REls R w' sv xs := by
  rcases h with ⟨he, hz⟩ | ⟨b, cap, hb, rfl, hle, hc⟩
  · exact .inl ⟨he, hz⟩
  · have hb2 := Nat.lt_of_lt_of_le hb hB.size
    rcases hl with he | ⟨b2, off2, n2, cap2, hlt, he⟩
    · refine .inr ⟨b, cap, hb2, rfl, hle, ?_⟩
      intro j x hx
      have hj := (List.getElem?_eq_some_iff.1 hx).1
      rcases he with he | ⟨x, c2, he⟩
      · cases he
      · simp only [Value.slice.injEq] at he
        omega
    · cases he
      exact .inr ⟨b, cap, hb2, rfl, hle, fun j x hx i v hv => (hB.cell (p := ⟨b, j * R.k + i, none⟩) hlt).trans (hc j x hx i v hv)⟩

theorem REls.lows {α : Type} {R : RowOf α} {w : World} {sv : Value} {xs : List α} (h : REls R w sv xs) : LowEls w.heap.size sv := by
  rcases h with ⟨he, hz⟩ | ⟨b, cap, hb, rfl, hle, hc⟩
  · exact .inl he
  · exact .inr ⟨b, 0, _, cap, hb, rfl⟩

mutual
theorem TAt.low {B : Nat} {w W : World} (hB : Below B w W) : ∀ (t : Th) {a b c : Value}, TAt B w t a b c → TAt B W t a b c
  | .mk cs vs ps, a, b, c, h => by
    obtain ⟨⟨h1, l1⟩, ⟨h2, l2⟩, h3⟩ := h.parts
    refine TAt.of (h1.low l1 hB) l1 (h2.low l2 hB) l2 ?_
    rcases h3 with h3 | ⟨g, cap, hg, hgs, e, hl, hp⟩
    · exact .inl h3
    · exact .inr ⟨g, cap, hg, Nat.lt_of_lt_of_le hgs hB.size, e, hl, PAt.low hB ps hg hp⟩
theorem PAt.low {B : Nat} {w W : World} (hB : Below B w W) : ∀ (ts : List Th) {g o : Nat}, g < B → PAt B w ts g o → PAt B W ts g o
  | [], _, _, _, _ => trivial
  | t :: ts, g, o, hg, h => by
    obtain ⟨⟨a, b, c, h1, h2, h3, h4⟩, h5⟩ := h
    exact ⟨⟨a, b, c, (hB.cell (p := ⟨g, o, none⟩) hg).trans h1, (hB.cell (p := ⟨g, o + 1, none⟩) hg).trans h2, (hB.cell (p := ⟨g, o + 2, none⟩) hg).trans h3, TAt.low hB t h4⟩, PAt.low hB ts hg h5⟩
end

theorem Ps.low {B : Nat} {w W : World} (hB : Below B w W) {c : Value} {ps : List Th} (h : Ps B w c ps) : Ps B W c ps := by
  rcases h with h3 | ⟨g, cap, hg, hgs, e, hl, hp⟩
  · exact .inl h3
  · exact .inr ⟨g, cap, hg, Nat.lt_of_lt_of_le hgs hB.size, e, hl, PAt.low hB ps hg hp⟩

mutual
theorem TAt.mono {B B' : Nat} {w : World} (hB : B ≤ B') : ∀ (t : Th) {a b c : Value}, TAt B w t a b c → TAt B' w t a b c
  | .mk cs vs ps, a, b, c, h => by
    obtain ⟨⟨h1, l1⟩, ⟨h2, l2⟩, h3⟩ := h.parts
    refine TAt.of h1 (l1.mono hB) h2 (l2.mono hB) ?_
    rcases h3 with h3 | ⟨g, cap, hg, hgs, e, hl, hp⟩
    · exact .inl h3
    · exact .inr ⟨g, cap, by omega, hgs, e, hl, PAt.mono hB ps hp⟩
theorem PAt.mono {B B' : Nat} {w : World} (hB : B ≤ B') : ∀ (ts : List Th) {g o : Nat}, PAt B w ts g o → PAt B' w ts g o
  | [], _, _, _ => trivial
  | t :: ts, g, o, h => by
    obtain ⟨⟨a, b, c, h1, h2, h3, h4⟩, h5⟩ := h
    exact ⟨⟨a, b, c, h1, h2, h3, TAt.mono hB t h4⟩, PAt.mono hB ts h5⟩
end

theorem Ps.mono {B B' : Nat} {w : World} (hB : B ≤ B') {c : Value} {ps : List Th} (h : Ps B w c ps) : Ps B' w c ps := by
  rcases h with h3 | ⟨g, cap, hg, hgs, e, hl, hp⟩
  · exact .inl h3
  · exact .inr ⟨g, cap, by omega, hgs, e, hl, PAt.mono hB ps hp⟩

/-- A thing that lies in a world also lies in later ones. -/
theorem TAt.below {w W : World} (hB : Below w.heap.size w W) {t : Th} {a b c : Value} (h : TAt w.heap.size w t a b c) : TAt W.heap.size W t a b c := (h.low hB).mono hB.size

theorem Ps.below {w W : World} (hB : Below w.heap.size w W) {c : Value} {ps : List Th} (h : Ps w.heap.size w c ps) : Ps W.heap.size W c ps := (h.low hB).mono hB.size

theorem PAt.get {B : Nat} {w : World} : ∀ (ts : List Th) {g o : Nat}, PAt B w ts g o → ∀ j t, ts[j]? = some t → ∃ a b c, w.cell? ⟨g, o + j * 3, none⟩ = some a ∧ w.cell? ⟨g, o + j * 3 + 1, none⟩ = some b ∧ w.cell? ⟨g, o + j * 3 + 2, none⟩ = some c ∧ TAt B w t a b c
  | [], _, _, _, j, t, hj => by simp at hj
  | u :: us, g, o, h, 0, t, hj => by
    simp at hj
    subst hj
    obtain ⟨⟨a, b, c, h1, h2, h3, h4⟩, _⟩ := h
    exact ⟨a, b, c, by simpa using h1, by simpa using h2, by simpa using h3, h4⟩
  | u :: us, g, o, h, j + 1, t, hj => by
    rw [List.getElem?_cons_succ] at hj
    have := PAt.get us h.2 j t hj
    rw [show o + 3 + j * 3 = o + (j + 1) * 3 by omega] at this
    exact this

theorem PAt.of_get {B : Nat} {w : World} : ∀ (ts : List Th) {g o : Nat}, (∀ j t, ts[j]? = some t → ∃ a b c, w.cell? ⟨g, o + j * 3, none⟩ = some a ∧ w.cell? ⟨g, o + j * 3 + 1, none⟩ = some b ∧ w.cell? ⟨g, o + j * 3 + 2, none⟩ = some c ∧ TAt B w t a b c) → PAt B w ts g o
  | [], _, _, _ => trivial
  | u :: us, g, o, h => by
    refine ⟨?_, PAt.of_get us fun j t hj => ?_⟩
    · obtain ⟨a, b, c, h1, h2, h3, h4⟩ := h 0 u rfl
      exact ⟨a, b, c, by simpa using h1, by simpa using h2, by simpa using h3, h4⟩
    · have := h (j + 1) t (by rw [List.getElem?_cons_succ]; exact hj)
      rw [show o + (j + 1) * 3 = o + 3 + j * 3 by omega] at this
      exact this

theorem Ps.shape {B : Nat} {w : World} {c : Value} {ps : List Th} (h : Ps B w c ps) : ∃ a cap, c = .slice a ps.length cap := by
  rcases h with ⟨he, rfl⟩ | ⟨g, cap, _, _, he, _⟩
  · exact he.shape
  · exact ⟨_, _, he⟩

theorem Ps.len {B : Nat} {w : World} {a : Option Addr} {n cap : Nat} {ps : List Th} (h : Ps B w (.slice a n cap) ps) : n = ps.length := by
  obtain ⟨a, c, he⟩ := h.shape
  cases he
  rfl

/-- What there is at an index. -/
theorem Ps.get {B : Nat} {w : World} {a : Option Addr} {n cap : Nat} {ps : List Th} (h : Ps B w (.slice a n cap) ps) {j : Nat} (hj : j < n) :
    ∃ g t, a = some ⟨g, 0, none⟩ ∧ g < B ∧ g < w.heap.size ∧ n ≤ cap ∧ ps[j]? = some t ∧ ∃ a b c, w.cell? ⟨g, j * 3, none⟩ = some a ∧ w.cell? ⟨g, j * 3 + 1, none⟩ = some b ∧ w.cell? ⟨g, j * 3 + 2, none⟩ = some c ∧ TAt B w t a b c := by
  have hn := h.len
  rcases h with ⟨he, rfl⟩ | ⟨g, cap', hg, hgs, he, hl, hp⟩
  · simp at hn
    omega
  · cases he
    obtain ⟨t, ht⟩ : ∃ t, ps[j]? = some t := ⟨ps[j], List.getElem?_eq_getElem (by omega)⟩
    have := PAt.get ps hp j t ht
    rw [Nat.zero_add] at this
    exact ⟨g, t, rfl, hg, hgs, hl, ht, this⟩

/-- The three slices of a thing. -/
theorem TAt.shape {B : Nat} {w : World} {t : Th} {a b c : Value} (h : TAt B w t a b c) : ∃ a1 c1 a2 c2 a3 c3, a = .slice a1 t.cs.length c1 ∧ b = .slice a2 t.vs.length c2 ∧ c = .slice a3 t.ps.length c3 ∧ Els .i64 w a t.cs ∧ REls RVa w b t.vs ∧ Ps B w c t.ps ∧ LowEls B a ∧ LowEls B b := by
  obtain ⟨cs, vs, ps⟩ := t
  obtain ⟨⟨h1, l1⟩, ⟨h2, l2⟩, h3⟩ := h.parts
  obtain ⟨a1, c1, e1⟩ := h1.shape
  obtain ⟨a2, c2, e2⟩ := h2.shape
  obtain ⟨a3, c3, e3⟩ := h3.shape
  exact ⟨a1, c1, a2, c2, a3, c3, e1, e2, e3, h1, h2, h3, l1, l2⟩

theorem Th.size_eq (t : Th) : t.size = 1 + Th.sizes t.ps := by cases t; rfl
theorem Th.deep_eq (t : Th) : t.deep = Th.deeps t.ps + 1 := by cases t; rfl

end Go.Proofs.YtelhpndlejommaaGreat
