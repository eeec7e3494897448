/- The generator of taxonomies: Pick, Parents; slices of slices of a call's own. -/
import Derived.Test.YtidnllddhhllcaaTz
namespace Go.Proofs.Ytidnllddhhllcaa
open Go.RowKit Go.Shelf

/-- A slice of slices, the call's own. -/
def LOwn (B : Nat) (w : World) (v : Value) (P : List (List Int)) : Prop :=
  ∃ vs : List Value, w.ownsRow B 22 1 v P.length vs ∧ vs.length = P.length ∧ ∀ (j : Nat) (l : List Int), P[j]? = some l → ∃ x, vs[j]? = some x ∧ EIn (fun b => B ≤ b ∧ v.ownBlock ≠ some b) w x l

theorem LOwn.nil (B : Nat) (w : World) : LOwn B w (.slice none 0 0) [] := ⟨[], World.ownsRow_nil _ _ _ _, rfl, fun j l h => by simp at h⟩

theorem LOwn.below {B : Nat} {w w' : World} {v : Value} {P : List (List Int)} (h : LOwn B w v P) (hB : Below w.heap.size w w') : LOwn B w' v P := by
  obtain ⟨vs, h1, h2, h3⟩ := h
  refine ⟨vs, owns_below h1 hB, h2, fun j l hl => ?_⟩
  obtain ⟨x, hx, hE⟩ := h3 j l hl
  exact ⟨x, hx, hE.keep hB.size fun b _ hb => hB.block b hb⟩

theorem LOwn.base {B B' : Nat} {w : World} {v : Value} {P : List (List Int)} (h : LOwn B w v P) (hB : B' ≤ B) : LOwn B' w v P := by
  obtain ⟨vs, ⟨h1, h2⟩, h3, h4⟩ := h
  refine ⟨vs, ⟨h1, ?_⟩, h3, fun j l hl => ?_⟩
  · rcases h2 with h2 | ⟨g, cap, cur, hv, hg, r⟩
    · exact .inl h2
    · exact .inr ⟨g, cap, cur, hv, Nat.le_trans hB hg, r⟩
  · obtain ⟨x, hx, hE⟩ := h4 j l hl
    exact ⟨x, hx, hE.mono fun b _ hb => ⟨Nat.le_trans hB hb.1, hb.2⟩⟩

theorem LOwn.lin {B : Nat} {w : World} {v : Value} {P : List (List Int)} (h : LOwn B w v P) : LIn (B ≤ ·) w v P := by
  obtain ⟨vs, hO, h2, h3⟩ := h
  rcases hO.2 with ⟨hv, hn⟩ | ⟨g, cap, cur, hv, hg, hh, hcap, _, hsz, htk⟩
  · exact .inl ⟨.inl hv, List.eq_nil_of_length_eq_zero hn⟩
  · subst hv
    refine .inr ⟨g, cap, hg, (Array.getElem?_eq_some_iff.1 hh).1, rfl, hcap, fun j l hl => ?_⟩
    obtain ⟨x, hx, hE⟩ := h3 j l hl
    have hj := (List.getElem?_eq_some_iff.1 hl).1
    exact ⟨x, (hO.cellAt j (by omega)).trans hx, hE.mono fun b _ hb => hb.1⟩

theorem LOwn.slice {B : Nat} {w : World} {v : Value} {P : List (List Int)} (h : LOwn B w v P) : ∃ a n c, v = .slice a n c ∧ Hid (n = P.length) ∧ Hid (LOwn B w (.slice a n c) P) := by
  obtain ⟨a, c, rfl⟩ := h.lin.shape
  exact ⟨a, _, c, rfl, rfl, h⟩

theorem EIn.one {S : Nat → Prop} {w : World} {x : Value} {l : List Int} (h : EIn S w x l) : x.oneCell' = true := by
  obtain ⟨a, c, rfl⟩ := h.els.shape
  rfl

/-- A list appended to a slice of lists of the call's own: the law at the operation. -/
theorem push_list {ops : Array Oper} {rest : List Oper} {o : Oper} {act : Act} {Q : Exit → Act → World → Prop} {w : World} (hgd : o.guard = none) (s x : Operand)
    (ho : o.op = .call { callee := .builtin .append, args := #[s, x], argTypes := #[23, 23] }) (B : Nat) (v : Value) (P : List (List Int)) (l : List Int) (xv : Value) (T : TypeId)
    (hs : act.eval s = v) (g0 : Nat) (hg0 : w.heap.size = g0) (hx : act.eval x = .slice (some ⟨g0, 0, none⟩) 1 1) (hown : LOwn B w v P) (hB : B ≤ w.heap.size) (hl : P.length + 1 ≤ 1000000)
    (he : EIn (fun b => B ≤ b ∧ v.ownBlock ≠ some b) w xv l)
    (h : ∀ a n c w', Hid (n = P.length + 1) → Hid (LOwn B w' (.slice a n c) (P ++ [l])) → Hid (Below B w w') → wpList Try.prog ops Q rest (act.put o.dst (.slice a n c)) w') :
    wpList Try.prog ops Q (o :: rest) act (w.alloc (.cells #[xv] T)) := by
  subst hg0
  obtain ⟨i0, hi, hz0, hz1, hz2⟩ := info_parts Try.infoSl
  have hBA : Below w.heap.size w (w.alloc (.cells #[xv] T)) := (Below.refl _ w).alloc (Nat.le_refl _) _
  obtain ⟨vs, hO0, hvl, hat⟩ := hown
  have hO := owns_below hO0 hBA
  refine wpList_append_own_at _ hgd s x 23 ho B 22 i0 _ 1 24 Try.underlying23 hi hz0 hz1 hz2 rfl (by decide) v P.length vs hs hO ⟨w.heap.size, 0, none⟩ 1 1 [xv] hx rfl ?_ ?_ (by unfold maxLen; omega) (by omega) (by simp; omega) ?_
  · exact one_new w xv T
  · intro u hu
    simp at hu
    subst hu
    exact he.one
  · intro v' w1 hO' hG _ hatb
    have hbl : Below B w w1 := (((Below.refl B w).alloc hB _).grown hG (by simp; omega) fun j hj => (World.ownsRow.lt hO j hj).1)
    have keep : ∀ {y : Value} {zs : List Int}, EIn (fun b => B ≤ b ∧ v.ownBlock ≠ some b) w y zs → EIn (fun b => B ≤ b ∧ v'.ownBlock ≠ some b) w1 y zs := fun {y zs} h => by
      have h1 : EIn (fun b => (B ≤ b ∧ v.ownBlock ≠ some b) ∧ b < w.heap.size) w y zs := h.mono fun b hb hS => ⟨hS, hb⟩
      have h2 : EIn (fun b => (B ≤ b ∧ v.ownBlock ≠ some b) ∧ b < w.heap.size) (w.alloc (.cells #[xv] T)) y zs := h1.keep hBA.size fun b _ hb => hBA.block b hb
      refine (h2.keep hG.size fun b hS hb => hG.block b hb (fun e => hS.1.2 e.symm)).mono fun b _ hS => ⟨hS.1.1, fun e => ?_⟩
      rcases hatb with h | h
      · exact hS.1.2 (by rw [← h]; exact e)
      · rw [h] at e
        simp at e
        have := hS.2
        omega
    have hV : LOwn B w1 v' (P ++ [l]) := by
      refine ⟨vs ++ [xv], by rw [List.length_append]; exact hO', by rw [List.length_append, List.length_append, hvl]; rfl, fun j l' hl' => ?_⟩
      by_cases hj : j < P.length
      · rw [List.getElem?_append_left hj] at hl'
        obtain ⟨y, hy, hE⟩ := hat j l' hl'
        exact ⟨y, by rw [List.getElem?_append_left (by omega)]; exact hy, keep hE⟩
      · have hjl := (List.getElem?_eq_some_iff.1 hl').1
        rw [List.length_append] at hjl
        simp at hjl
        have e : j = P.length := by omega
        subst e
        rw [List.getElem?_append_right (Nat.le_refl _)] at hl'
        simp at hl'
        subst hl'
        refine ⟨xv, by rw [List.getElem?_append_right (by omega), hvl]; simp, keep he⟩
    obtain ⟨a, n, c, rfl, hn, hO⟩ := hV.slice
    refine h a n c w1 ?_ hO hbl
    have := hn.out
    rw [List.length_append] at this
    exact this

/-- What Pick returns. -/
def pickI (zs : List Int) (i : Nat) (most : Int) : Int := if i < zs.length then aroundI (zs[i]?.getD 0) most else 0

theorem pickI_range (zs : List Int) (i : Nat) (most : Int) (h : 1 ≤ most) : 0 ≤ pickI zs i most ∧ pickI zs i most < most := by
  unfold pickI
  split
  · exact aroundI_range _ _ h
  · omega

/-- All numbers fit. -/
def Wfs (zs : List Int) : Prop := ∀ z ∈ zs, (Lit.int .i64 z).wf = true

set_option maxHeartbeats 1000000 in
theorem pick_any (sv : Value) (zs : List Int) (i : Nat) (most : Int) (w : World) (hl : Els .i64 w sv zs) (hw : Wfs zs) (h : 1 ≤ most) (hm : most ≤ 4611686018427387904) (hi : i ≤ 100000) :
    Calls Try.prog 37 #[sv, .int .i64 (i : Int), .int .i64 most] w fun e w' => e = .returned (.int .i64 (pickI zs i most)) ∧ w = w' := by
  obtain ⟨a, cap, rfl⟩ := hl.shape
  unfold pickI
  have h0 : decide ((i : Int) < 0) = false := decide_eq_false (by omega)
  by_cases hlt : i < zs.length
  · rw [if_pos hlt]
    obtain ⟨b, off, rfl, hcl⟩ := hl.at i hlt
    have hwz : (Lit.int .i64 (zs[i]?.getD 0)).wf = true := by rw [List.getElem?_eq_getElem hlt]; exact hw _ (List.getElem_mem hlt)
    have hge : decide ((i : Int) ≥ (zs.length : Int)) = false := decide_eq_false (by omega)
    generalize zs[i]?.getD 0 = z at *
    generalize hm' : zs.length = m at *
    have k1 := Lib.hid (around_any z most w h hm hwz)
    have hil : (i : Int) < m := by omega
    clear hl hw hwz hm'
    go_enter Try.func37, Try.ntmps37
    go_wp2_with fail
    refine (k1.out).mono ?_
    rintro e w' ⟨rfl, rfl⟩
    go_wp2
    go_ret
    exact ⟨rfl, rfl⟩
  · rw [if_neg hlt]
    have hge : decide ((i : Int) ≥ (zs.length : Int)) = true := decide_eq_true (by omega)
    generalize zs.length = m at *
    clear hl hw
    go_enter Try.func37, Try.ntmps37
    go_wp2
    go_ret
    exact ⟨rfl, rfl⟩

/-- What the generator makes. -/
structure GenP (most : Nat) (P : List (List Int)) : Prop where
  good : Tx.Good P
  pos : 0 < P.length
  le : P.length ≤ most
  short : ∀ l ∈ P, l.length ≤ most

end Go.Proofs.Ytidnllddhhllcaa
