/- Contracts of package thing: increasing, proper. -/
import Derived.Test.YtelhpndlejommaaGreatYb
import Derived.Test.YtelhpndlejommaaGreatRat3
import Derived.Test.YtelhpndlejommaaGreatSmall
namespace Go.Proofs.YtelhpndlejommaaGreat
open Go.RowKit Go.Shelf

/-- Strictly increasing numbers from 0 on, below a limit. -/
def Inc (lim : Int) (l : List Int) : Prop := ∀ (i : Nat) (x : Int), l[i]? = some x → 0 ≤ x ∧ x < lim ∧ ∀ y, 0 < i → l[i - 1]? = some y → y < x

def lastI (l : List Int) (k : Nat) : Int := if k = 0 then -1 else l[k - 1]?.getD 0

theorem Inc.nil (lim : Int) : Inc lim [] := fun i x h => by simp at h

theorem Inc.take {lim : Int} {l : List Int} (h : Inc lim l) (k : Nat) : Inc lim (l.take k) := by
  intro i x hx
  have hi : i < k := by
    have := (List.getElem?_eq_some_iff.1 hx).1
    rw [List.length_take] at this
    omega
  rw [List.getElem?_take_of_lt hi] at hx
  obtain ⟨h1, h2, h3⟩ := h i x hx
  refine ⟨h1, h2, fun y h0 hy => h3 y h0 ?_⟩
  rwa [List.getElem?_take_of_lt (by omega)] at hy

theorem lastI_ge {lim : Int} {l : List Int} {k : Nat} (h : Inc lim (l.take k)) (hk : k ≤ l.length) : -1 ≤ lastI l k := by
  unfold lastI
  by_cases h0 : k = 0
  · rw [if_pos h0]; omega
  · rw [if_neg h0, List.getElem?_eq_getElem (by omega)]
    have := h (k - 1) l[k - 1] (by rw [List.getElem?_take_of_lt (by omega)]; exact List.getElem?_eq_getElem (by omega))
    simp only [Option.getD_some]
    omega

theorem Inc.snoc {lim : Int} {l : List Int} {k : Nat} {x : Int} (h : Inc lim (l.take k)) (hx : l[k]? = some x) (h1 : lastI l k < x) (h2 : x < lim) : Inc lim (l.take (k + 1)) := by
  have hk := (List.getElem?_eq_some_iff.1 hx).1
  intro i z hz
  have hi : i < k + 1 := by
    have := (List.getElem?_eq_some_iff.1 hz).1
    rw [List.length_take] at this
    omega
  rw [List.getElem?_take_of_lt hi] at hz
  by_cases e : i = k
  · subst e
    rw [hx] at hz
    cases hz
    have := lastI_ge h (by omega)
    refine ⟨by omega, h2, fun y h0 hy => ?_⟩
    rw [List.getElem?_take_of_lt (by omega)] at hy
    unfold lastI at h1
    rw [if_neg (by omega), hy] at h1
    exact h1
  · obtain ⟨a1, a2, a3⟩ := h i z (by rw [List.getElem?_take_of_lt (by omega)]; exact hz)
    refine ⟨a1, a2, fun y h0 hy => a3 y h0 ?_⟩
    rw [List.getElem?_take_of_lt (by omega)] at hy ⊢
    exact hy

theorem Inc.fail {lim : Int} {l : List Int} {k : Nat} {x : Int} (hx : l[k]? = some x) (h : x ≤ lastI l k ∨ lim ≤ x) : ¬ Inc lim l := by
  intro hi
  have hk := (List.getElem?_eq_some_iff.1 hx).1
  obtain ⟨h1, h2, h3⟩ := hi k x hx
  rcases h with h | h
  · unfold lastI at h
    by_cases h0 : k = 0
    · rw [if_pos h0] at h; omega
    · rw [if_neg h0] at h
      have hy := List.getElem?_eq_getElem (l := l) (show k - 1 < l.length by omega)
      have := h3 _ (by omega) hy
      rw [hy] at h
      simp only [Option.getD_some] at h
      omega
  · omega

theorem lastI_succ {l : List Int} {k : Nat} {x : Int} (hx : l[k]? = some x) : lastI l (k + 1) = x := by
  unfold lastI
  rw [if_neg (by omega), show k + 1 - 1 = k by omega, hx]
  rfl

open Classical in
noncomputable def incB (lim : Int) (l : List Int) : Bool := decide (Inc lim l)

open Classical in
theorem incB_t {lim : Int} {l : List Int} (h : Inc lim l) : incB lim l = true := by unfold incB; exact decide_eq_true h
open Classical in
theorem incB_f {lim : Int} {l : List Int} (h : ¬ Inc lim l) : incB lim l = false := by unfold incB; exact decide_eq_false h
open Classical in
theorem incB_iff {lim : Int} {l : List Int} : incB lim l = true ↔ Inc lim l := by unfold incB; exact decide_eq_true_iff

set_option maxHeartbeats 4000000 in
set_option maxRecDepth 100000 in
theorem inc_any (a : Option Addr) (n c : Nat) (l : List Int) (lim : Int) (w : World) (h : Els .i64 w (.slice a n c) l) (hn : n ≤ 1000000000) :
    Calls Tryz.prog 52 #[.slice a n c, .int .i64 lim] w fun e w' => e = .returned (.bool (incB lim l)) ∧ w = w' := by
  have HE := Lib.hid h
  have HN := Lib.hid h.len
  clear h
  go_enter Tryz.func52, Tryz.ntmps52
  go_wp2
  go_loopw [5, 10] (fun s x wr => ∃ k : Nat, ∃ y : Int, k ≤ n ∧ x = .int .i64 k ∧ s = .int .i64 y ∧ Hid (y = lastI l k) ∧ Hid (Inc lim (l.take k)) ∧ wr = w) (fun _ x _ => n - (intOf x).toNat)
  case atStart => exact ⟨0, -1, by omega, rfl, rfl, rfl, Inc.nil _, rfl⟩
  case round =>
    obtain ⟨k, y, hk, rfl, rfl, hy, hI, rfl⟩ := hrel
    by_cases hlt : k < n
    · have i1 : (k : Int) < n := by omega
      obtain ⟨b, off, rfl, hc0⟩ := HE.out.at k hlt
      have hx : l[k]? = some (l[k]?.getD 0) := by rw [List.getElem?_eq_getElem (by have := HN.out; omega)]; rfl
      generalize l[k]?.getD 0 = x at *
      by_cases h1 : x ≤ y
      · have hF : incB lim l = false := incB_f (Inc.fail hx (.inl (by rw [← hy.out]; exact h1)))
        have HF := Lib.hid hF
        clear hF hx
        go_wp2
        go_ret
        exact ⟨ret_bool HF.out.symm, rfl⟩
      · have h2 : y < x := by omega
        by_cases h3 : lim ≤ x
        · have hF : incB lim l = false := incB_f (Inc.fail hx (.inr h3))
          have HF := Lib.hid hF
          clear hF hx
          go_wp2
          go_ret
          exact ⟨ret_bool HF.out.symm, rfl⟩
        · have h4 : x < lim := by omega
          have HI : Hid (Inc lim (l.take (k + 1))) := Lib.hid (hI.out.snoc hx (by rw [← hy.out]; exact h2) h4)
          have HY : Hid (x = lastI l (k + 1)) := Lib.hid (lastI_succ hx).symm
          clear hx hI hy
          go_wp2
          go_roundw
          case rel => exact ⟨k + 1, x, by omega, by go_num, rfl, HY, HI, (by first | rfl | trivial)⟩
          case measure => simp [intOf]; omega
    · have i1 : ¬ (k : Int) < n := by omega
      have hF : incB lim l = true := incB_t (by have := hI.out; rwa [List.take_of_length_le (by have := HN.out; omega)] at this)
      have HF := Lib.hid hF
      clear hF
      go_wp2
      go_ret
      exact ⟨ret_bool HF.out.symm, rfl⟩

/-- A value that a node can have. -/
def Va.ok (v : Va) : Prop := Qm.Ok v.n v.d ∧ v.d ≤ 65536

def Va.wf (v : Va) : Prop := I64 v.t ∧ I64 v.n ∧ I64 v.d

/-- Classes and values are as a valid thing's. -/
def NodeOk (cs : List Int) (vs : List Va) : Prop := Inc 64 cs ∧ (∀ v ∈ vs, v.ok) ∧ Inc 32 (vs.map Va.t)

mutual
def Th.good : Th → Prop
  | .mk cs vs ps => NodeOk cs vs ∧ Th.goods ps
def Th.goods : List Th → Prop
  | [] => True
  | t :: ts => t.good ∧ Th.goods ts
end

mutual
def Th.wf : Th → Prop
  | .mk cs vs ps => (((∀ z ∈ cs, I64 z) ∧ cs.length ≤ 1000000) ∧ (∀ v ∈ vs, v.wf) ∧ vs.length ≤ 1000000) ∧ Th.wfs ps
def Th.wfs : List Th → Prop
  | [] => True
  | t :: ts => t.wf ∧ Th.wfs ts
end

theorem Th.goods_all {ts : List Th} : Th.goods ts ↔ ∀ t ∈ ts, t.good := by
  induction ts with
  | nil => simp [Th.goods]
  | cons t ts ih => rw [Th.goods, ih, List.forall_mem_cons]

theorem Th.wfs_all {ts : List Th} : Th.wfs ts ↔ ∀ t ∈ ts, t.wf := by
  induction ts with
  | nil => simp [Th.wfs]
  | cons t ts ih => rw [Th.wfs, ih, List.forall_mem_cons]

theorem Th.good_eq (t : Th) : t.good ↔ NodeOk t.cs t.vs ∧ ∀ u ∈ t.ps, u.good := by
  cases t
  rw [Th.good, Th.goods_all]
  rfl

theorem Th.wf_eq (t : Th) : t.wf ↔ (((∀ z ∈ t.cs, I64 z) ∧ t.cs.length ≤ 1000000) ∧ (∀ v ∈ t.vs, v.wf) ∧ t.vs.length ≤ 1000000) ∧ ∀ u ∈ t.ps, u.wf := by
  cases t
  rw [Th.wf, Th.wfs_all]
  rfl

open Classical in
noncomputable def Th.goodB (t : Th) : Bool := decide t.good
open Classical in
theorem Th.goodB_t {t : Th} (h : t.good) : t.goodB = true := by unfold Th.goodB; exact decide_eq_true h
open Classical in
theorem Th.goodB_f {t : Th} (h : ¬ t.good) : t.goodB = false := by unfold Th.goodB; exact decide_eq_false h
open Classical in
theorem Th.goodB_iff {t : Th} : t.goodB = true ↔ t.good := by unfold Th.goodB; exact decide_eq_true_iff

/-- The cells of a value in a row. -/
theorem va_at {w : World} {b n c : Nat} {vs : List Va} {j : Nat} {v : Va} (h : REls RVa w (.slice (some ⟨b, 0, none⟩) n c) vs) (hv : vs[j]? = some v) :
    w.cell? ⟨b, j * 3, none⟩ = some (.int .i64 v.t) ∧ w.cell? ⟨b, j * 3 + 1, none⟩ = some (.int .i64 v.n) ∧ w.cell? ⟨b, j * 3 + 2, none⟩ = some (.int .i64 v.d) ∧ b < w.heap.size := by
  have hn := h.len
  have hj : j < n := by rw [hn]; exact (List.getElem?_eq_some_iff.1 hv).1
  obtain ⟨b', e, hb, hc, hat⟩ := h.get hj
  cases e
  have g := fun i u hu => hat j v hv i u hu
  exact ⟨g 0 _ rfl, g 1 _ rfl, g 2 _ rfl, hb⟩

theorem map_snoc {vs : List Va} {k : Nat} {v : Va} (h : vs[k]? = some v) : (vs.take (k + 1)).map Va.t = (vs.take k).map Va.t ++ [v.t] := by
  rw [List.take_add_one, h, List.map_append]
  rfl

/-- The first part for which a closure holds: none. -/
def IdxT (ts : List Th) (S : Th → Prop) (w : World) (e : Ending) (w' : World) : Prop := ∃ v : Int, e = .returned (.int .i64 v) ∧ ((∀ t ∈ ts, S t) ∧ v = -1 ∨ ¬ (∀ t ∈ ts, S t) ∧ 0 ≤ v) ∧ Below w.heap.size w w'

end Go.Proofs.YtelhpndlejommaaGreat
