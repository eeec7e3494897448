/- The encoding of things: mathematics. -/
import Derived.Test.YtelhpndlejommaaGreatYc
import Derived.Test.YtelhpndlejommaaGreatWpure
namespace Go.Proofs.YtelhpndlejommaaGreat
open Go.RowKit Go.Shelf

/-- The numbers of values. -/
def Va.nums (v : Va) : List Int := [v.t, v.n, v.d]
def numsL (vs : List Va) : List Int := vs.flatMap Va.nums

mutual
/-- The encoding of a thing. -/
def Th.enc : Th → List Int
  | .mk cs vs ps => (Hm.uv cs.length ++ encs cs) ++ (Hm.uv (Hm.zig (vs.length : Int)) ++ encs (numsL vs)) ++ (Hm.uv (Hm.zig (ps.length : Int)) ++ Th.encL ps)
def Th.encL : List Th → List Int
  | [] => []
  | t :: ts => t.enc ++ Th.encL ts
end

mutual
/-- The numbers of an encoding. -/
def Th.wt : Th → Nat
  | .mk cs vs ps => 3 + cs.length + 3 * vs.length + Th.wts ps
def Th.wts : List Th → Nat
  | [] => 0
  | t :: ts => t.wt + Th.wts ts
end

theorem Th.enc_eq (t : Th) : t.enc = (Hm.uv t.cs.length ++ encs t.cs) ++ (Hm.uv (Hm.zig (t.vs.length : Int)) ++ encs (numsL t.vs)) ++ (Hm.uv (Hm.zig (t.ps.length : Int)) ++ Th.encL t.ps) := by cases t; rfl

theorem Th.wt_eq (t : Th) : t.wt = 3 + t.cs.length + 3 * t.vs.length + Th.wts t.ps := by cases t; rfl

theorem encs_append (a b : List Int) : encs (a ++ b) = encs a ++ encs b := by simp [encs]

theorem numsL_len (vs : List Va) : (numsL vs).length = 3 * vs.length := by
  induction vs with
  | nil => rfl
  | cons v vs ih => rw [numsL, List.flatMap_cons, List.length_append, List.length_cons]; unfold numsL at ih; rw [ih]; simp [Va.nums]; omega

theorem numsL_snoc {vs : List Va} {k : Nat} {v : Va} (h : vs[k]? = some v) : numsL (vs.take (k + 1)) = numsL (vs.take k) ++ [v.t, v.n, v.d] := by
  rw [List.take_add_one, h]
  unfold numsL
  rw [List.flatMap_append]
  rfl

theorem encs_v {vs : List Va} {k : Nat} {v : Va} (h : vs[k]? = some v) : encs (numsL (vs.take (k + 1))) = encs (numsL (vs.take k)) ++ Hm.uv (Hm.zig v.t) ++ Hm.uv (Hm.zig v.n) ++ Hm.uv (Hm.zig v.d) := by
  rw [numsL_snoc h, encs_append]
  simp [encs, List.append_assoc]

theorem nums_of {zs : List Int} (h : ∀ z ∈ zs, I64 z) : Nums zs := fun z hz => i64_wf (h z hz)

theorem numsL_wf {vs : List Va} (h : ∀ v ∈ vs, v.wf) : Nums (numsL vs) := fun z hz => by
  obtain ⟨v, hv, hz⟩ := List.mem_flatMap.1 hz
  have := h v hv
  simp only [Va.nums, List.mem_cons, List.not_mem_nil, or_false] at hz
  rcases hz with rfl | rfl | rfl
  · exact i64_wf this.1
  · exact i64_wf this.2.1
  · exact i64_wf this.2.2

theorem Th.encL_append (a b : List Th) : Th.encL (a ++ b) = Th.encL a ++ Th.encL b := by
  induction a with
  | nil => rfl
  | cons t ts ih => rw [List.cons_append, Th.encL, Th.encL, ih, List.append_assoc]

theorem Th.encL_snoc {ts : List Th} {k : Nat} {t : Th} (h : ts[k]? = some t) : Th.encL (ts.take (k + 1)) = Th.encL (ts.take k) ++ t.enc := by
  rw [List.take_add_one, h, Th.encL_append]
  simp [Th.encL]

theorem Th.wts_append (a b : List Th) : Th.wts (a ++ b) = Th.wts a + Th.wts b := by
  induction a with
  | nil => simp [Th.wts]
  | cons t ts ih => rw [List.cons_append, Th.wts, Th.wts, ih]; omega

theorem Th.wts_snoc {ts : List Th} {k : Nat} {t : Th} (h : ts[k]? = some t) : Th.wts (ts.take (k + 1)) = Th.wts (ts.take k) + t.wt := by
  rw [List.take_add_one, h, Th.wts_append]
  simp [Th.wts]

theorem Th.wts_take (ts : List Th) (k : Nat) : Th.wts (ts.take k) ≤ Th.wts ts := by
  have := Th.wts_append (ts.take k) (ts.drop k)
  rw [List.take_append_drop] at this
  omega

theorem Th.wt_pos (t : Th) : 3 ≤ t.wt := by rw [Th.wt_eq]; omega

theorem Th.wts_mem {ts : List Th} {t : Th} (h : t ∈ ts) : t.wt ≤ Th.wts ts := by
  induction ts with
  | nil => cases h
  | cons u us ih =>
    rw [Th.wts]
    rcases List.mem_cons.1 h with rfl | h
    · omega
    · have := ih h; omega

theorem Th.wts_len (ts : List Th) : 3 * ts.length ≤ Th.wts ts := by
  induction ts with
  | nil => simp
  | cons u us ih =>
    rw [Th.wts, List.length_cons]
    have := u.wt_pos
    omega

mutual
theorem Th.size_wt : ∀ t : Th, 3 * t.size ≤ t.wt
  | .mk cs vs ps => by
    have := Th.sizes_wts ps
    rw [Th.size, Th.wt]
    omega
theorem Th.sizes_wts : ∀ ts : List Th, 3 * Th.sizes ts ≤ Th.wts ts
  | [] => by simp [Th.sizes]
  | t :: ts => by
    have h1 := Th.size_wt t
    have h2 := Th.sizes_wts ts
    rw [Th.sizes, Th.wts]
    omega
end

mutual
theorem Th.enc_len : ∀ t : Th, t.wf → t.wt ≤ 100000000 → t.enc.length ≤ 10 * t.wt
  | .mk cs vs ps, h, hw => by
    have hx := (Th.wf_eq _).1 h
    obtain ⟨⟨⟨h1, h2⟩, h3, h4⟩, h5⟩ := hx
    rw [Th.wt] at hw
    have hl := Th.wts_len ps
    have e1 := Hm.uv_len (n := cs.length) (by have : cs.length ≤ 1000000 := h2; omega)
    have e2 := encs_len cs (nums_of h1)
    have e3 := Hm.uv_len (Hm.zig_lt (n := (vs.length : Int)) (by have : vs.length ≤ 1000000 := h4; omega))
    have e4 := encs_len (numsL vs) (numsL_wf h3)
    rw [numsL_len] at e4
    have e5 := Hm.uv_len (Hm.zig_lt (n := (ps.length : Int)) (by omega))
    have e6 := Th.encL_len ps (Th.wfs_all.2 h5) (by omega)
    rw [Th.enc, Th.wt]
    simp only [List.length_append]
    omega
theorem Th.encL_len : ∀ ts : List Th, Th.wfs ts → Th.wts ts ≤ 100000000 → (Th.encL ts).length ≤ 10 * Th.wts ts
  | [], _, _ => by simp [Th.encL]
  | t :: ts, h, hw => by
    rw [Th.wts] at hw
    have h1 := Th.enc_len t h.1 (by omega)
    have h2 := Th.encL_len ts h.2 (by omega)
    rw [Th.encL, Th.wts, List.length_append]
    omega
end

theorem inc_len {lim : Nat} : ∀ (l : List Int), Inc lim l → l.length ≤ lim := by
  intro l h
  have key : ∀ (k : Nat), k < l.length → ∃ x, l[k]? = some x ∧ (k : Int) ≤ x := by
    intro k
    induction k with
    | zero =>
      intro hk
      exact ⟨_, List.getElem?_eq_getElem hk, by have := (h 0 _ (List.getElem?_eq_getElem hk)).1; omega⟩
    | succ k ih =>
      intro hk
      obtain ⟨x, hx, hle⟩ := ih (by omega)
      have h2 := (h (k + 1) _ (List.getElem?_eq_getElem hk)).2.2 x (by omega) (by simpa using hx)
      exact ⟨_, List.getElem?_eq_getElem hk, by omega⟩
  by_cases h0 : l.length = 0
  · omega
  · obtain ⟨x, hx, hle⟩ := key (l.length - 1) (by omega)
    have := (h _ _ hx).2.1
    omega

theorem node_wt {cs : List Int} {vs : List Va} (h : NodeOk cs vs) : cs.length ≤ 64 ∧ vs.length ≤ 32 := by
  have h1 := inc_len (lim := 64) cs h.1
  have h2 := inc_len (lim := 32) _ h.2.2
  rw [List.length_map] at h2
  exact ⟨h1, h2⟩

mutual
theorem Th.good_wt : ∀ t : Th, t.good → t.wt ≤ 163 * t.size
  | .mk cs vs ps, h => by
    have h1 := node_wt h.1
    have h2 := Th.goods_wts ps h.2
    rw [Th.wt, Th.size]
    omega
theorem Th.goods_wts : ∀ ts : List Th, Th.goods ts → Th.wts ts ≤ 163 * Th.sizes ts
  | [], _ => by simp [Th.wts]
  | t :: ts, h => by
    have h1 := Th.good_wt t h.1
    have h2 := Th.goods_wts ts h.2
    rw [Th.wts, Th.sizes]
    omega
end

end Go.Proofs.YtelhpndlejommaaGreat
