/- The limits of intervals as a list in order: mathematics, and the law of an append of rows inside a region. -/
import Derived.Test.YtimbgjpjgbjnkaaGb
import Derived.Laws.OwnMore
namespace Go.Proofs.Ytimbgjpjgbjnkaa
open Go.RowKit Go.Shelf

/-- Ratios in a row. -/
def RRat : RowOf (Int × Int) where
  cells x := [.int .i64 x.1, .int .i64 x.2]
  k := 2
  len _ := rfl
  one x v h := by simp at h; rcases h with rfl | rfl <;> rfl
  pos := by decide

noncomputable def kP (p : Int × Int) : Int := kR p.1 p.2

/-- Small ratios in increasing order. -/
def PtsOk (P : List (Int × Int)) : Prop := (∀ p ∈ P, SmallR p.1 p.2) ∧ P.Pairwise (fun p q => kP p < kP q)

theorem PtsOk.nil : PtsOk [] := ⟨fun p h => (by cases h), List.Pairwise.nil⟩

/-- What put gives. -/
def putP (P : List (Int × Int)) (r : Int × Int) (k : Nat) : List (Int × Int) := if P[k]? = some r then P else P.take k ++ [r] ++ P.drop k

/-- Where put stops. -/
def PutAt (P : List (Int × Int)) (r : Int × Int) (k : Nat) : Prop := k ≤ P.length ∧ (∀ p ∈ P.take k, kP p < kP r) ∧ ∀ p, P[k]? = some p → ¬ kP p < kP r

theorem mem_take_drop {α : Type} {P : List α} {k : Nat} {q : α} : q ∈ P ↔ q ∈ P.take k ∨ q ∈ P.drop k := by
  conv => lhs; rw [← List.take_append_drop k P]
  rw [List.mem_append]

theorem kP_eq {p q : Int × Int} (hp : SmallR p.1 p.2) (hq : SmallR q.1 q.2) (h : kP p = kP q) : p = q := by
  have := (kR_eq hp.1 hq.1).1 h
  exact Prod.ext this.1 this.2

theorem putP_ok {P : List (Int × Int)} {r : Int × Int} {k : Nat} (h : PtsOk P) (hr : SmallR r.1 r.2) (hk : PutAt P r k) : PtsOk (putP P r k) ∧ (∀ q, q ∈ putP P r k ↔ q ∈ P ∨ q = r) ∧ (putP P r k).length ≤ P.length + 1 := by
  unfold putP
  by_cases he : P[k]? = some r
  · rw [if_pos he]
    refine ⟨h, fun q => ⟨fun hq => .inl hq, fun hq => ?_⟩, by omega⟩
    rcases hq with hq | rfl
    · exact hq
    · exact List.mem_of_getElem? he
  · rw [if_neg he]
    have hpw := h.2
    rw [← List.take_append_drop k P, List.pairwise_append] at hpw
    have hd : ∀ q ∈ P.drop k, kP r < kP q := by
      intro q hq
      obtain ⟨i, hi⟩ := List.getElem?_of_mem hq
      rw [List.getElem?_drop] at hi
      obtain ⟨p, hp⟩ : ∃ p, P[k]? = some p := ⟨P[k]'(by have := (List.getElem?_eq_some_iff.1 hi).1; omega), List.getElem?_eq_getElem _⟩
      have h1 := hk.2.2 p hp
      have h2 : kP r < kP p := by
        have : kP p ≠ kP r := fun e => he (by rw [hp, kP_eq (h.1 p (List.mem_of_getElem? hp)) hr e])
        omega
      cases i with
      | zero =>
        rw [Nat.add_zero, hp] at hi
        cases hi
        exact h2
      | succ i =>
        have h3 := List.pairwise_iff_getElem.1 h.2 k (k + (i + 1)) (List.getElem?_eq_some_iff.1 hp).1 (List.getElem?_eq_some_iff.1 hi).1 (by omega)
        rw [(List.getElem?_eq_some_iff.1 hp).2, (List.getElem?_eq_some_iff.1 hi).2] at h3
        omega
    refine ⟨⟨?_, ?_⟩, fun q => ?_, ?_⟩
    · intro p hp
      rw [List.append_assoc, List.mem_append, List.mem_append, List.mem_singleton] at hp
      rcases hp with hp | rfl | hp
      · exact h.1 p (List.mem_of_mem_take hp)
      · exact hr
      · exact h.1 p (List.mem_of_mem_drop hp)
    · rw [List.append_assoc, List.pairwise_append]
      refine ⟨hpw.1, ?_, ?_⟩
      · rw [List.singleton_append, List.pairwise_cons]
        exact ⟨hd, hpw.2.1⟩
      · intro a ha b hb
        rw [List.singleton_append, List.mem_cons] at hb
        rcases hb with rfl | hb
        · exact hk.2.1 a ha
        · exact hpw.2.2 a ha b hb
    · rw [List.append_assoc, List.mem_append, List.mem_append, List.mem_singleton, mem_take_drop (P := P) (k := k)]
      constructor
      · rintro (h | h | h)
        · exact .inl (.inl h)
        · exact .inr h
        · exact .inl (.inr h)
      · rintro ((h | h) | h)
        · exact .inl h
        · exact .inr (.inr h)
        · exact .inr (.inl h)
    · simp
      omega

/-- Rows appended inside a region. -/
theorem step_rows {P : Program} {ops : Array Oper} {o : Oper} {act : Act} {K : Act → World → Prop} {Q : Exit → Act → World → Prop} {E : Prop} {w : World} (hgd : o.guard = none) (s x : Operand) (t : TypeId)
    (ho : o.op = .call { callee := .builtin .append, args := #[s, x], argTypes := #[t, t] }) {α : Type} (R : RowOf α) (e : TypeId) (bytes : Nat) (z : Value) (ht : P.underlying t = some (.slice e))
    (info : (P.info? e).map (fun i => (i.zero, i.size, i.bytes)) = some (some z, R.k, bytes)) (hzc : z.cells.size = R.k) (hby : bytes ≤ 1000) (B : Nat) (v : Value) (xs ns : List α) (ad : Addr) (m c0 : Nat)
    (hs : act.eval s = v) (hx : act.eval x = .slice (some ad) m c0) (hm : m = ns.length) (hown : ROwn R e B w v xs) (hB : B ≤ w.heap.size) (hl : xs.length + m ≤ 1000000000)
    (hcell : ∀ j u, (ns.flatMap R.cells)[j]? = some u → w.cell? (ad.add j) = some u)
    (h : ∀ a n c w', Hid (n = xs.length + m) → Hid (ROwn R e B w' (.slice a n c) (xs ++ ns)) → Hid (Below B w w') → K (act.put o.dst (.slice a n c)) w') :
    if Region.wanted o (yielded ops act.tmps) = true then Oper.wp P o act w K Q else E := by
  have hw : Region.wanted o (yielded ops act.tmps) = true := by simp [Region.wanted, hgd]
  rw [if_pos hw]
  subst hm
  obtain ⟨i0, hi, hz0, hz1, hz2⟩ := info_parts info
  refine wp_append_own w s x t ho B e i0 z R.k bytes ht hi hz0 hz1 hz2 hzc R.pos v xs.length _ hs hown ad ns.length c0 (ns.flatMap R.cells) hx (R.flat ns) hcell ?_ (by unfold maxLen; omega) ?_ hB ?_
  · intro u hu
    obtain ⟨t, _, hu⟩ := List.mem_flatMap.1 hu
    exact R.one t u hu
  · have : (xs.length + ns.length) * bytes ≤ (xs.length + ns.length) * 1000 := Nat.mul_le_mul_left _ hby
    omega
  · intro v' w1 hO hG _
    have hbl : Below B w w1 := (Below.refl B w).grown hG hB fun j hj => (World.ownsRow.lt hown j hj).1
    have hO' : ROwn R e B w1 v' (xs ++ ns) := by
      unfold ROwn
      rw [List.length_append, List.flatMap_append]
      exact hO
    obtain ⟨a, n, c, rfl, hn, hO⟩ := hO'.slice
    refine h a n c w1 ?_ hO hbl
    have := hn.out
    rw [List.length_append] at this
    exact this

theorem add_addr (b off j : Nat) : (⟨b, off, none⟩ : Addr).add j = ⟨b, off + j, none⟩ := by by_cases h : j = 0 <;> simp [Addr.add, h]

/-- The cells of a part of a row. -/
theorem REls.part {α : Type} {R : RowOf α} {w : World} {b n cap : Nat} {xs : List α} (h : REls R w (.slice (some ⟨b, 0, none⟩) n cap) xs) (k m : Nat) (j : Nat) (u : Value) (hu : (((xs.drop k).take m).flatMap R.cells)[j]? = some u) : w.cell? ((⟨b, k * R.k, none⟩ : Addr).add j) = some u := by
  rw [add_addr]
  have hp := R.pos
  have hj : j < ((xs.drop k).take m).length * R.k := by rw [← R.flat]; exact (List.getElem?_eq_some_iff.1 hu).1
  have hq : j / R.k < ((xs.drop k).take m).length := (Nat.div_lt_iff_lt_mul hp).2 hj
  have hx : ((xs.drop k).take m)[j / R.k]? = some ((xs.drop k).take m)[j / R.k] := List.getElem?_eq_getElem hq
  have e : j / R.k * R.k + j % R.k = j := by rw [Nat.mul_comm]; exact Nat.div_add_mod j R.k
  have hat := R.at _ _ _ hx (j % R.k) (Nat.mod_lt _ hp)
  rw [e, hu] at hat
  have hx2 := hx
  rw [List.getElem?_take] at hx2
  rw [if_pos (by rw [List.length_take] at hq; omega), List.getElem?_drop] at hx2
  have hkn : k + j / R.k < n := by rw [h.len]; exact (List.getElem?_eq_some_iff.1 hx2).1
  obtain ⟨b', e', hb, hc, hcell⟩ := h.get hkn
  cases e'
  have := hcell _ _ hx2 (j % R.k) u hat.symm
  rw [show k * R.k + j = (k + j / R.k) * R.k + j % R.k by rw [Nat.add_mul]; omega]
  exact this

end Go.Proofs.Ytimbgjpjgbjnkaa
