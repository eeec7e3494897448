/- Classes that are added at the end; slices of slices that are copied. -/
import Derived.Test.YtidnllddhhllcaaLaw05b
namespace Go.Proofs.Ytidnllddhhllcaa
open Go.RowKit Go.Shelf

/-- A slice of slices, itself the call's own. -/
def LOw (B : Nat) (w : World) (v : Value) (P : List (List Int)) : Prop :=
  ∃ vs : List Value, w.ownsRow B 22 1 v P.length vs ∧ vs.length = P.length ∧ ∀ (j : Nat) (l : List Int), P[j]? = some l → ∃ x, vs[j]? = some x ∧ EIn (fun b => v.ownBlock ≠ some b) w x l

theorem LOw.below {B : Nat} {w w' : World} {v : Value} {P : List (List Int)} (h : LOw B w v P) (hB : Below w.heap.size w w') : LOw B w' v P := by
  obtain ⟨vs, h1, h2, h3⟩ := h
  refine ⟨vs, owns_below h1 hB, h2, fun j l hl => ?_⟩
  obtain ⟨x, hx, hE⟩ := h3 j l hl
  exact ⟨x, hx, hE.keep hB.size fun b _ hb => hB.block b hb⟩

theorem LOw.le {B : Nat} {w : World} {v : Value} {P : List (List Int)} (h : LOw B w v P) : LE w v P := by
  obtain ⟨vs, hO, h2, h3⟩ := h
  rcases hO.2 with ⟨hv, hn⟩ | ⟨g, cap, cur, hv, hg, hh, hcap, _, hsz, htk⟩
  · exact .inl ⟨.inl hv, List.eq_nil_of_length_eq_zero hn⟩
  · subst hv
    refine .inr ⟨g, cap, trivial, (Array.getElem?_eq_some_iff.1 hh).1, rfl, hcap, fun j l hl => ?_⟩
    obtain ⟨x, hx, hE⟩ := h3 j l hl
    have hj := (List.getElem?_eq_some_iff.1 hl).1
    exact ⟨x, (hO.cellAt j (by omega)).trans hx, hE.mono fun b _ _ => trivial⟩

theorem LOw.slice {B : Nat} {w : World} {v : Value} {P : List (List Int)} (h : LOw B w v P) : ∃ a n c, v = .slice a n c ∧ Hid (n = P.length) ∧ Hid (LOw B w (.slice a n c) P) := by
  obtain ⟨a, c, rfl⟩ := LIn.shape h.le
  exact ⟨a, _, c, rfl, rfl, h⟩

theorem LOw.own {B : Nat} {w : World} {v : Value} {P : List (List Int)} (h : LOw B w v P) : ∀ g, v.ownBlock = some g → B ≤ g ∧ g < w.heap.size := fun g hg => by
  obtain ⟨vs, hO, _, _⟩ := h
  exact World.ownsRow.lt hO g hg

/-- Lists appended to a slice of lists of the call's own: the law at the operation. -/
theorem push_lists {ops : Array Oper} {rest : List Oper} {o : Oper} {act : Act} {Q : Exit → Act → World → Prop} {w : World} (hgd : o.guard = none) (s x : Operand)
    (ho : o.op = .call { callee := .builtin .append, args := #[s, x], argTypes := #[23, 23] }) (B : Nat) (v : Value) (P R : List (List Int)) (b m c0 : Nat)
    (hs : act.eval s = v) (hm : m = R.length) (hx : act.eval x = .slice (some ⟨b, 0, none⟩) m c0) (hown : LOw B w v P) (hB : B ≤ w.heap.size) (hl : P.length + m ≤ 1000000)
    (he : ∀ (j : Nat) (l : List Int), R[j]? = some l → ∃ y, w.cell? ⟨b, j, none⟩ = some y ∧ EIn (fun b => v.ownBlock ≠ some b) w y l)
    (h : ∀ a n c w', Hid (n = P.length + m) → Hid (LOw B w' (.slice a n c) (P ++ R)) → Hid (Below B w w') → wpList Try.prog ops Q rest (act.put o.dst (.slice a n c)) w') :
    wpList Try.prog ops Q (o :: rest) act w := by
  subst hm
  obtain ⟨i0, hi, hz0, hz1, hz2⟩ := info_parts Try.infoSl
  obtain ⟨vs, hO, hvl, hat⟩ := hown
  have hsel : ∀ j : Nat, ∃ y : Value, ∀ l, R[j]? = some l → w.cell? ⟨b, j, none⟩ = some y ∧ EIn (fun b => v.ownBlock ≠ some b) w y l := fun j => by
    cases hj : R[j]? with
    | none => exact ⟨.nilFunc, fun l h => by cases h⟩
    | some l => obtain ⟨y, h1, h2⟩ := he j l hj; exact ⟨y, fun l' h => by cases h; exact ⟨h1, h2⟩⟩
  have hys : ∃ ys : List Value, ys.length = R.length ∧ ∀ (j : Nat) (l : List Int), R[j]? = some l → ∃ y, ys[j]? = some y ∧ w.cell? ⟨b, j, none⟩ = some y ∧ EIn (fun b => v.ownBlock ≠ some b) w y l := by
    refine ⟨(List.range R.length).map fun j => Classical.choose (hsel j), by simp, fun j l hl => ?_⟩
    have hj := (List.getElem?_eq_some_iff.1 hl).1
    have := Classical.choose_spec (hsel j) l hl
    exact ⟨Classical.choose (hsel j), by simp [hj], this⟩
  obtain ⟨ys, hyl, hy⟩ := hys
  refine wpList_append_own_at _ hgd s x 23 ho B 22 i0 _ 1 24 Try.underlying23 hi hz0 hz1 hz2 rfl (by decide) v P.length vs hs hO ⟨b, 0, none⟩ R.length c0 ys hx (by rw [hyl, Nat.mul_one]) ?_ ?_ (by unfold maxLen; omega) (by omega) hB ?_
  · intro j u hu
    have hj : j < R.length := by rw [← hyl]; exact (List.getElem?_eq_some_iff.1 hu).1
    obtain ⟨y, h1, h2, _⟩ := hy j _ (List.getElem?_eq_getElem hj)
    rw [h1] at hu
    cases hu
    have e : (⟨b, 0, none⟩ : Addr).add j = ⟨b, j, none⟩ := by by_cases h : j = 0 <;> simp [Addr.add, h]
    rw [e]
    exact h2
  · intro u hu
    obtain ⟨j, hj⟩ := List.getElem?_of_mem hu
    have hjl : j < R.length := by rw [← hyl]; exact (List.getElem?_eq_some_iff.1 hj).1
    obtain ⟨y, h1, _, h3⟩ := hy j _ (List.getElem?_eq_getElem hjl)
    rw [h1] at hj
    cases hj
    exact h3.one
  · intro v' w1 hO' hG _ hatb
    have hbl : Below B w w1 := (Below.refl B w).grown hG hB fun j hj => (World.ownsRow.lt hO j hj).1
    have keep : ∀ {y : Value} {zs : List Int}, EIn (fun b => v.ownBlock ≠ some b) w y zs → EIn (fun b => v'.ownBlock ≠ some b) w1 y zs := fun {y zs} h => by
      have h1 : EIn (fun b => (v.ownBlock ≠ some b) ∧ b < w.heap.size) w y zs := h.mono fun b hb hS => ⟨hS, hb⟩
      refine (h1.keep hG.size fun b hS hb => hG.block b hb (fun e => hS.1 e.symm)).mono fun b _ hS => fun e => ?_
      rcases hatb with h | h
      · exact hS.1 (by rw [← h]; exact e)
      · rw [h] at e
        simp at e
        have := hS.2
        omega
    have hV : LOw B w1 v' (P ++ R) := by
      refine ⟨vs ++ ys, by rw [List.length_append]; exact hO', by rw [List.length_append, List.length_append, hvl, hyl], fun j l' hl' => ?_⟩
      by_cases hj : j < P.length
      · rw [List.getElem?_append_left hj] at hl'
        obtain ⟨y, hy, hE⟩ := hat j l' hl'
        exact ⟨y, by rw [List.getElem?_append_left (by omega)]; exact hy, keep hE⟩
      · rw [List.getElem?_append_right (by omega)] at hl'
        obtain ⟨y, h1, _, h3⟩ := hy _ l' hl'
        exact ⟨y, by rw [List.getElem?_append_right (by omega), hvl]; exact h1, keep h3⟩
    obtain ⟨a, n, c, rfl, hn, hO⟩ := hV.slice
    refine h a n c w1 ?_ hO hbl
    have := hn.out
    rw [List.length_append] at this
    exact this

/-- Classes that were added at the end. -/
structure MoreOK (P M : List (List Int)) : Prop where
  len : P.length ≤ M.length
  pre : ∀ (i : Nat), i < P.length → M[i]? = P[i]?
  new : ∀ (i : Nat) (l : List Int), P.length ≤ i → M[i]? = some l → Tx.okB i (-1) l = true ∧ l.length ≤ i

theorem MoreOK.refl (P : List (List Int)) : MoreOK P P := ⟨Nat.le_refl _, fun _ _ => rfl, fun i l hi h => by rw [List.getElem?_eq_none hi] at h; cases h⟩

theorem MoreOK.snoc {P M : List (List Int)} (h : MoreOK P M) {l : List Int} (h1 : Tx.okB M.length (-1) l = true) (h2 : l.length ≤ M.length) : MoreOK P (M ++ [l]) where
  len := by rw [List.length_append]; have := h.len; omega
  pre := fun i hi => by rw [List.getElem?_append_left (by have := h.len; omega)]; exact h.pre i hi
  new := fun i l' hi hl => by
    by_cases hm : i < M.length
    · rw [List.getElem?_append_left hm] at hl
      exact h.new i l' hi hl
    · have hil := (List.getElem?_eq_some_iff.1 hl).1
      rw [List.length_append] at hil
      simp at hil
      have e : i = M.length := by omega
      subst e
      rw [List.getElem?_append_right (Nat.le_refl _)] at hl
      simp at hl
      subst hl
      exact ⟨h1, h2⟩

theorem okB_mono {n n' : Nat} (h : n ≤ n') : ∀ (l : List Int) (last : Int), Tx.okB n last l = true → Tx.okB n' last l = true
  | [], _, _ => rfl
  | x :: xs, last, hk => by
    unfold Tx.okB at hk ⊢
    split at hk
    · cases hk
    · next hx =>
      rw [if_neg (by omega)]
      exact okB_mono h xs x hk

theorem MoreOK.row {P M : List (List Int)} (h : MoreOK P M) {c : Nat} (hc : c < P.length) : Tx.row M c = Tx.row P c := by
  unfold Tx.row
  rw [h.pre c hc]

theorem MoreOK.inh {P M : List (List Int)} (h : MoreOK P M) (hok : Tx.okAll P.length P = true) {c d : Nat} (hc : c < P.length) : Tx.Inh M c d ↔ Tx.Inh P c d := by
  constructor
  · intro hi
    induction hi with
    | refl => exact .refl _
    | step hp _ ih =>
      rw [h.row hc] at hp
      exact .step hp (ih (Tx.ok_len hok hp))
  · intro hi
    induction hi with
    | refl => exact .refl _
    | step hp _ ih => exact .step (by rw [h.row hc]; exact hp) (ih (Tx.ok_len hok hp))

theorem MoreOK.good {P M : List (List Int)} (h : MoreOK P M) (hg : Tx.Good P) (h64 : M.length ≤ 64) : Tx.Good M where
  len := h64
  ok := List.all_eq_true.2 fun l hl => by
    obtain ⟨i, hi⟩ := List.getElem?_of_mem hl
    by_cases hip : i < P.length
    · rw [h.pre i hip] at hi
      exact okB_mono h.len l _ (List.all_eq_true.1 hg.ok l (List.mem_of_getElem? hi))
    · have hil := (List.getElem?_eq_some_iff.1 hi).1
      exact okB_mono (by omega) l _ (h.new i l (by omega) hi).1
  acy := by
    have hstep : ∀ {c p : Nat}, P.length ≤ c → (p : Int) ∈ Tx.row M c → p < c := fun {c p} hc hp => by
      obtain ⟨l, hl, hx⟩ := Tx.row_mem hp
      have := Tx.okB_mem (h.new c l hc hl).1 _ hx
      omega
    have hle : ∀ {c d : Nat}, Tx.Inh M c d → P.length ≤ d → d ≤ c := fun {c d} hi => by
      induction hi with
      | refl => intro _; exact Nat.le_refl _
      | @step c p d hp hpd ih =>
        intro hd
        by_cases hc : c < P.length
        · rw [h.row hc] at hp
          have hpl := Tx.ok_len hg.ok hp
          have := (((h.inh hg.ok hpl).1 hpd).lt hg.ok hpl)
          omega
        · have h1 := hstep (by omega) hp
          have h2 := ih hd
          omega
    rintro ⟨c, p, hp, hi⟩
    by_cases hc : c < P.length
    · have hp' := hp
      rw [h.row hc] at hp'
      exact hg.acy ⟨c, p, hp', (h.inh hg.ok (Tx.ok_len hg.ok hp')).1 hi⟩
    · have h1 := hstep (by omega) hp
      have h2 := hle hi (by omega)
      omega

theorem MoreOK.inhB {P M : List (List Int)} (h : MoreOK P M) (hok : Tx.okAll P.length P = true) {c d : Nat} (hc : c < P.length) : Tx.inh M c d = Tx.inh P c d := by
  apply Bool.eq_iff_iff.2
  rw [Tx.inh_eq, Tx.inh_eq]
  exact h.inh hok hc

theorem MoreOK.is {P M : List (List Int)} (h : MoreOK P M) (hok : Tx.okAll P.length P = true) {c d : Nat} (hc : c < P.length) (hd : d < P.length) : isB M c d = isB P c d := by
  rw [isB_nat (Nat.lt_of_lt_of_le hc h.len) (Nat.lt_of_lt_of_le hd h.len), isB_nat hc hd]
  exact h.inhB hok hc

theorem allB_one {n c : Nat} (h : c < n) : allB n [(c : Int)] = true := by
  unfold allB
  rw [List.all_cons, clsB_nat h]
  rfl

theorem MoreOK.up {P M : List (List Int)} (h : MoreOK P M) (hok : Tx.okAll P.length P = true) {c : Nat} (hc : c < P.length) : upL P [(c : Int)] = upL M [(c : Int)] := by
  rw [upL_eq (allB_one hc), upL_eq (allB_one (Nat.lt_of_lt_of_le hc h.len))]
  refine ones_ext fun d _ => ?_
  unfold anyB
  rw [List.any_cons, List.any_cons]
  show (Tx.inh P c d || _) = (Tx.inh M c d || _)
  rw [h.inhB hok hc]
  rfl

end Go.Proofs.Ytidnllddhhllcaa
