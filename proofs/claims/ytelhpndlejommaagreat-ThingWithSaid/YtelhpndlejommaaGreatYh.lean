/- A thing under way, behind a box. -/
import Derived.Test.YtelhpndlejommaaGreatYg
namespace Go.Proofs.YtelhpndlejommaaGreat
open Go.RowKit Go.Shelf

/-- What an append leaves: all blocks but the slice's own, and a slice there or in a new block. -/
def PF (v : Value) (w w' : World) (v' : Value) : Prop := KeepS (fun k => v.ownBlock ≠ some k) w w' ∧ ∀ g, v'.ownBlock = some g → v.ownBlock = some g ∨ w.heap.size ≤ g

theorem PF.of_grown {v v' : Value} {w w' : World} (h : w.grownBy w' v.ownBlock) (hat : v'.ownBlock = v.ownBlock ∨ v'.ownBlock = some w.heap.size) : PF v w w' v' :=
  ⟨⟨h.size, fun b hb hl => h.block b hl fun e => hb e.symm⟩, fun g hg => by
    rcases hat with e | e
    · exact .inl (e ▸ hg)
    · rw [e] at hg; injection hg with hg; exact .inr (by omega)⟩

theorem PF.refl (v : Value) (w : World) : PF v w w v := ⟨⟨Nat.le_refl _, fun _ _ _ => rfl⟩, fun _ h => .inl h⟩

theorem PF.alloc {v v' : Value} {w w' : World} {o : Obj} (h : PF v (w.alloc o) w' v') : PF v w w' v' := by
  have hs : w.heap.size < (w.alloc o).heap.size := by simp
  refine ⟨⟨by have := h.1.1; omega, fun b hb hl => (h.1.2 b hb (by omega)).trans (Below.heap_alloc _ _ _ hl)⟩, fun g hg => ?_⟩
  rcases h.2 g hg with h | h
  · exact .inl h
  · exact .inr (by omega)

/-- Elements appended to a slice of the call's own: the law at the operation, with what it leaves alone. -/
theorem push_row_f {P : Program} {ops : Array Oper} {rest : List Oper} {o : Oper} {act : Act} {Q : Exit → Act → World → Prop} {w : World} (hgd : o.guard = none) (s x : Operand) (t : TypeId)
    (ho : o.op = .call { callee := .builtin .append, args := #[s, x], argTypes := #[t, t] }) {α : Type} (R : RowOf α) (e : TypeId) (bytes : Nat) (z : Value) (ht : P.underlying t = some (.slice e))
    (info : (P.info? e).map (fun i => (i.zero, i.size, i.bytes)) = some (some z, R.k, bytes)) (hzc : z.cells.size = R.k) (hby : bytes ≤ 1000) (B : Nat) (v : Value) (xs ns : List α) (cs : Array Value) (T : TypeId) (hcs : cs.toList = ns.flatMap R.cells)
    (hs : act.eval s = v) (g0 m : Nat) (hg0 : w.heap.size = g0) (hm : m = ns.length) (hx : act.eval x = .slice (some ⟨g0, 0, none⟩) m m) (hown : ROwn R e B w v xs) (hB : B ≤ w.heap.size) (hl : xs.length + m ≤ 1000000000)
    (h : ∀ a n c w', Hid (n = xs.length + m) → Hid (ROwn R e B w' (.slice a n c) (xs ++ ns)) → Hid (Below B w w') → Hid (PF v w w' (.slice a n c)) → wpList P ops Q rest (act.put o.dst (.slice a n c)) w') :
    wpList P ops Q (o :: rest) act (w.alloc (.cells cs T)) := by
  subst hg0
  subst hm
  obtain ⟨i0, hi, hz0, hz1, hz2⟩ := info_parts info
  have hw := hown.below ((Below.refl _ w).alloc (Nat.le_refl _) (.cells cs T))
  refine wpList_append_own_at _ hgd s x t ho B e i0 z R.k bytes ht hi hz0 hz1 hz2 hzc R.pos v xs.length _ hs hw ⟨w.heap.size, 0, none⟩ ns.length ns.length (ns.flatMap R.cells) hx (R.flat ns) ?_ ?_ (by unfold maxLen; omega) ?_ (by simp; omega) ?_
  · intro j u hu
    rw [← hcs] at hu
    have e : (⟨w.heap.size, 0, none⟩ : Addr).add j = ⟨w.heap.size, j, none⟩ := by by_cases h : j = 0 <;> simp [Addr.add, h]
    rw [e]
    have hb := heap_new w (.cells cs T)
    unfold World.cell?
    simp only [hb]
    rw [Array.getElem?_toList] at hu
    exact hu
  · intro u hu
    obtain ⟨t, _, hu⟩ := List.mem_flatMap.1 hu
    exact R.one t u hu
  · have : (xs.length + ns.length) * bytes ≤ (xs.length + ns.length) * 1000 := Nat.mul_le_mul_left _ hby
    omega
  · intro v' w1 hO hG _ hat
    have hbl : Below B w w1 := (((Below.refl B w).alloc hB _).grown hG (by simp; omega) fun j hj => (World.ownsRow.lt hw j hj).1)
    have hO' : ROwn R e B w1 v' (xs ++ ns) := by
      unfold ROwn
      rw [List.length_append, List.flatMap_append]
      exact hO
    have hpf := (PF.of_grown hG hat).alloc
    obtain ⟨a, n, c, rfl, hn, hO⟩ := hO'.slice
    refine h a n c w1 ?_ hO hbl hpf
    have := hn.out
    rw [List.length_append] at this
    exact this

/-- A readable row, wherever it begins in its block. -/
def RFl {α : Type} (R : RowOf α) (w : World) (sv : Value) (ns : List α) : Prop := (Emp sv ∧ ns = []) ∨ ∃ b off cap, sv = .slice (some ⟨b, off, none⟩) ns.length cap ∧ ∀ j u, (ns.flatMap R.cells)[j]? = some u → w.cell? ⟨b, off + j, none⟩ = some u

theorem REls.rfl' {α : Type} {R : RowOf α} {w : World} {sv : Value} {xs : List α} (h : REls R w sv xs) : RFl R w sv xs := by
  have hf := fun b n cap (e : sv = .slice (some ⟨b, 0, none⟩) n cap) => REls.flat (e ▸ h)
  rcases h with h | ⟨b, cap, hb, rfl, hl, hc⟩
  · exact .inl h
  · exact .inr ⟨b, 0, cap, rfl, fun j u hu => hf b _ cap rfl j u hu⟩

theorem rin_flat (zs : List Int) : zs.flatMap RIn.cells = zs.map (Value.int .i64) := by
  induction zs with
  | nil => rfl
  | cons z zs ih => rw [List.flatMap_cons, ih]; rfl

theorem Els.rfl' {w : World} {sv : Value} {xs : List Int} (h : Els .i64 w sv xs) : RFl RIn w sv xs := by
  rcases h with h | ⟨b, off, cap, hb, rfl, hle, hc⟩
  · exact .inl h
  · refine .inr ⟨b, off, cap, rfl, fun j u hu => ?_⟩
    rw [rin_flat, List.getElem?_map] at hu
    obtain ⟨x, hx, rfl⟩ := Option.map_eq_some_iff.1 hu
    have hj := (List.getElem?_eq_some_iff.1 hx).1
    rw [hc j hj, hx]
    rfl

/-- The slice of a row of numbers. -/
theorem rin_els {w : World} {sv : Value} {xs : List Int} (h : REls RIn w sv xs) : Els .i64 w sv xs := by
  rcases h with h | ⟨b, cap, hb, rfl, hl, hc⟩
  · exact .inl h
  · refine .inr ⟨b, 0, cap, hb, rfl, hl, fun j hj => ?_⟩
    have hx : xs[j]? = some xs[j] := List.getElem?_eq_getElem hj
    have := hc j _ hx 0 (.int .i64 xs[j]) rfl
    rw [hx, Nat.zero_add]
    have e : j * RIn.k + 0 = j := by show j * 1 + 0 = j; omega
    rw [e] at this
    exact this

/-- A readable row appended to a slice of the call's own: the law at the operation, with what it leaves alone. -/
theorem push_rows_f {P : Program} {ops : Array Oper} {rest : List Oper} {o : Oper} {act : Act} {Q : Exit → Act → World → Prop} {w : World} (hgd : o.guard = none) (s x : Operand) (t : TypeId)
    (ho : o.op = .call { callee := .builtin .append, args := #[s, x], argTypes := #[t, t] }) {α : Type} (R : RowOf α) (e : TypeId) (bytes : Nat) (z : Value) (ht : P.underlying t = some (.slice e))
    (info : (P.info? e).map (fun i => (i.zero, i.size, i.bytes)) = some (some z, R.k, bytes)) (hzc : z.cells.size = R.k) (hby : bytes ≤ 1000) (B : Nat) (v : Value) (xs ns : List α) (sv : Value)
    (hs : act.eval s = v) (hx : act.eval x = sv) (hown : ROwn R e B w v xs) (hE : RFl R w sv ns) (hB : B ≤ w.heap.size) (hl : xs.length + ns.length ≤ 1000000000)
    (h : ∀ a n c w', Hid (n = xs.length + ns.length) → Hid (ROwn R e B w' (.slice a n c) (xs ++ ns)) → Hid (Below B w w') → Hid (PF v w w' (.slice a n c)) → wpList P ops Q rest (act.put o.dst (.slice a n c)) w') :
    wpList P ops Q (o :: rest) act w := by
  obtain ⟨i0, hi, hz0, hz1, hz2⟩ := info_parts info
  have fin : ∀ v' w', ROwn R e B w' v' (xs ++ ns) → Below B w w' → PF v w w' v' → wpList P ops Q rest (act.put o.dst v') w' := by
    intro v' w' hO hb hk
    obtain ⟨a, n, c, rfl, hn, hO⟩ := hO.slice
    refine h a n c w' ?_ hO hb hk
    have := hn.out
    rw [List.length_append] at this
    exact this
  have some' : ∀ (ad : Addr) (c : Nat), sv = .slice (some ad) ns.length c → (∀ j u, (ns.flatMap R.cells)[j]? = some u → w.cell? (ad.add j) = some u) → wpList P ops Q (o :: rest) act w := by
    intro ad c hsv hcells
    subst hsv
    refine wpList_append_own_at _ hgd s x t ho B e i0 z R.k bytes ht hi hz0 hz1 hz2 hzc R.pos v xs.length _ hs hown ad ns.length c (ns.flatMap R.cells) hx (R.flat ns) hcells ?_ (by unfold maxLen; omega) ?_ hB ?_
    · intro u hu
      obtain ⟨t, _, hu⟩ := List.mem_flatMap.1 hu
      exact R.one t u hu
    · have : (xs.length + ns.length) * bytes ≤ (xs.length + ns.length) * 1000 := Nat.mul_le_mul_left _ hby
      omega
    · intro v' w1 hO hG _ hat
      refine fin v' w1 ?_ ((Below.refl B w).grown hG hB fun j hj => (World.ownsRow.lt hown j hj).1) (PF.of_grown hG hat)
      unfold ROwn
      rw [List.length_append, List.flatMap_append]
      exact hO
  rcases hE with ⟨rfl | ⟨ad, c, rfl⟩, rfl⟩ | ⟨b, off, cap, rfl, hc⟩
  · refine wpList_append_own_none hgd s x t ho B e i0 R.k ht hi v xs.length _ hs hown hx ?_
    exact fin v w (by rw [List.append_nil]; exact hown) (Below.refl B w) (PF.refl v w)
  · exact some' ad c rfl (by simp)
  · refine some' ⟨b, off, none⟩ cap rfl fun j u hu => ?_
    have e : (⟨b, off, none⟩ : Addr).add j = ⟨b, off + j, none⟩ := by by_cases h : j = 0 <;> simp [Addr.add, h]
    rw [e]
    exact hc j u hu

theorem ROwn.keepS {α : Type} {R : RowOf α} {E : TypeId} {B : Nat} {w W : World} {sv : Value} {xs : List α} (h : ROwn R E B w sv xs) (hk : ∀ g, sv.ownBlock = some g → g < w.heap.size → W.heap[g]? = w.heap[g]?) : ROwn R E B W sv xs := by
  obtain ⟨h1, h2 | ⟨g, cap, cur, hv, hg, hh, r⟩⟩ := h
  · exact ⟨h1, .inl h2⟩
  · refine ⟨h1, .inr ⟨g, cap, cur, hv, hg, (hk g (by rw [hv]; rfl) (Array.getElem?_eq_some_iff.1 hh).1).trans hh, r⟩⟩

theorem ROwn.lt {α : Type} {R : RowOf α} {E : TypeId} {B : Nat} {w : World} {sv : Value} {xs : List α} (h : ROwn R E B w sv xs) : ∀ g, sv.ownBlock = some g → B ≤ g ∧ g < w.heap.size := World.ownsRow.lt h

theorem ROwn.ins {α : Type} {R : RowOf α} {E : TypeId} {B : Nat} {w : World} {sv : Value} {xs : List α} (h : ROwn R E B w sv xs) : InS (fun k => B ≤ k ∧ k < w.heap.size) sv := by
  obtain ⟨h1, ⟨h2, _⟩ | ⟨g, cap, cur, hv, hg, hh, r⟩⟩ := h
  · exact .inl (.inl h2)
  · exact .inr ⟨g, 0, _, cap, ⟨hg, (Array.getElem?_eq_some_iff.1 hh).1⟩, hv⟩

/-- Blocks of parts: none of the box and of its slices. -/
def Free (S : Nat → Prop) (N : Nat) (va vb vc : Value) (k : Nat) : Prop := S k ∧ k ≠ N ∧ va.ownBlock ≠ some k ∧ vb.ownBlock ≠ some k ∧ vc.ownBlock ≠ some k

/-- Things in a row of triples. -/
def Lie (S : Nat → Prop) (w : World) (rs : List Tr) (ps : List Th) : Prop := rs.length = ps.length ∧ ∀ (j : Nat) (r : Tr) (t : Th), rs[j]? = some r → ps[j]? = some t → TS (fun k => S k ∧ k < w.heap.size) w t (.slice r.a1 r.n1 r.c1) (.slice r.a2 r.n2 r.c2) (.slice r.a3 r.n3 r.c3)

theorem Lie.keep {S S' : Nat → Prop} {w W : World} {rs : List Tr} {ps : List Th} (h : Lie S w rs ps) (hk : KeepS S w W) (hs : ∀ b, b < w.heap.size → S b → S' b) : Lie S' W rs ps :=
  ⟨h.1, fun j r t hr ht => TS.keep (S := fun k => S k ∧ k < w.heap.size) (S' := S') ⟨hk.1, fun b hb hl => hk.2 b hb.1 hl⟩ (fun b hl hb => hs b hl hb.1) t (h.2 j r t hr ht)⟩

theorem Lie.nil (S : Nat → Prop) (w : World) : Lie S w [] [] := ⟨rfl, fun j r t h => by simp at h⟩

theorem Lie.snoc {S : Nat → Prop} {w : World} {rs : List Tr} {ps : List Th} (h : Lie S w rs ps) {r : Tr} {t : Th} (hT : TS (fun k => S k ∧ k < w.heap.size) w t (.slice r.a1 r.n1 r.c1) (.slice r.a2 r.n2 r.c2) (.slice r.a3 r.n3 r.c3)) : Lie S w (rs ++ [r]) (ps ++ [t]) := by
  refine ⟨by simp [h.1], fun j r' t' hr ht => ?_⟩
  by_cases hj : j < ps.length
  · rw [List.getElem?_append_left (by rw [h.1]; exact hj)] at hr
    rw [List.getElem?_append_left hj] at ht
    exact h.2 j r' t' hr ht
  · rw [List.getElem?_append_right (by rw [h.1]; omega)] at hr
    rw [List.getElem?_append_right (by omega)] at ht
    have h1 := (List.getElem?_eq_some_iff.1 ht).1
    have e : j - ps.length = 0 := by simpa using h1
    rw [h.1, e] at hr
    rw [e] at ht
    cases hr
    cases ht
    exact hT

/-- A thing under way, in box N; its parts lie in blocks of which S holds. -/
structure OB (S : Nat → Prop) (B N : Nat) (w : World) (va vb vc : Value) (cs : List Int) (vs : List Va) (rs : List Tr) (ps : List Th) : Prop where
  box : BoxL N [va, vb, vc] w
  hB : B ≤ N
  oa : ROwn RIn 3 B w va cs
  ob : ROwn RVa 46 B w vb vs
  oc : ROwn RTh 27 B w vc rs
  lie : Lie (Free S N va vb vc) w rs ps
  na : va.ownBlock ≠ some N
  nb : vb.ownBlock ≠ some N
  nc : vc.ownBlock ≠ some N
  ab : ∀ g, va.ownBlock = some g → vb.ownBlock ≠ some g
  ac : ∀ g, va.ownBlock = some g → vc.ownBlock ≠ some g
  bc : ∀ g, vb.ownBlock = some g → vc.ownBlock ≠ some g

section
variable {S : Nat → Prop} {B N : Nat} {w w' : World} {va vb vc : Value} {cs : List Int} {vs : List Va} {rs : List Tr} {ps : List Th}

theorem OB.new (S : Nat → Prop) {B : Nat} (w : World) (T : TypeId) (hB : B ≤ w.heap.size) : OB S B w.heap.size (w.alloc (.cells #[.slice none 0 0, .slice none 0 0, .slice none 0 0] T)) (.slice none 0 0) (.slice none 0 0) (.slice none 0 0) [] [] [] [] :=
  ⟨BoxL.made w _ T, hB, ROwn.nil _ _ _ _, ROwn.nil _ _ _ _, ROwn.nil _ _ _ _, Lie.nil _ _, by simp [Value.ownBlock], by simp [Value.ownBlock], by simp [Value.ownBlock], by simp [Value.ownBlock], by simp [Value.ownBlock], by simp [Value.ownBlock]⟩

theorem OB.frame (h : OB S B N w va vb vc cs vs rs ps) (hB : Since w w') : OB S B N w' va vb vc cs vs rs ps :=
  { h with box := h.box.keep hB, oa := h.oa.below hB, ob := h.ob.below hB, oc := h.oc.below hB, lie := h.lie.keep ⟨hB.size, fun b _ hl => hB.block b hl⟩ fun _ _ h => h }

theorem OB.there1 (h : OB S B N w va vb vc cs vs rs ps) {v' : Value} (hp : PF va w w' v') : BoxL N [va, vb, vc] w' := by
  refine h.box.keepF (F := fun k => k = N) rfl ⟨hp.1.1, fun k hk hl => hp.1.2 k ?_ hl⟩
  rw [hk]; exact h.na
theorem OB.there2 (h : OB S B N w va vb vc cs vs rs ps) {v' : Value} (hp : PF vb w w' v') : BoxL N [va, vb, vc] w' := by
  refine h.box.keepF (F := fun k => k = N) rfl ⟨hp.1.1, fun k hk hl => hp.1.2 k ?_ hl⟩
  rw [hk]; exact h.nb
theorem OB.there3 (h : OB S B N w va vb vc cs vs rs ps) {v' : Value} (hp : PF vc w w' v') : BoxL N [va, vb, vc] w' := by
  refine h.box.keepF (F := fun k => k = N) rfl ⟨hp.1.1, fun k hk hl => hp.1.2 k ?_ hl⟩
  rw [hk]; exact h.nc

/-- What the store into the box leaves. -/
theorem PF.keep {v v' : Value} (hp : PF v w w' v') (o : Nat) (u : Value) : KeepS (fun k => v.ownBlock ≠ some k ∧ k ≠ N) w (w'.setCell ⟨N, o, none⟩ u) :=
  ⟨by rw [World.size_setCell]; exact hp.1.1, fun b hb hl => (Below.heap_setCell _ _ _ _ hb.2).trans (hp.1.2 b hb.1 hl)⟩

theorem PF.far {v v' : Value} (hp : PF v w w' v') {k : Nat} (hk : k < w.heap.size) (h : v.ownBlock ≠ some k) : v'.ownBlock ≠ some k := fun e => by
  rcases hp.2 k e with e | e
  · exact h e
  · omega

theorem OB.set1 (h : OB S B N w va vb vc cs vs rs ps) {v' : Value} {cs' : List Int} (hp : PF va w w' v') (hO : ROwn RIn 3 B w' v' cs') : OB S B N (w'.setCell ⟨N, 0, none⟩ v') v' vb vc cs' vs rs ps := by
  have hN := h.box.1
  have hk := PF.keep (N := N) hp 0 v'
  have fN := hp.far hN h.na
  have kb := fun g (e : vb.ownBlock = some g) (hl : g < w.heap.size) => hk.2 g ⟨fun e2 => h.ab g e2 e, fun e2 => h.nb (e2 ▸ e)⟩ hl
  have kc := fun g (e : vc.ownBlock = some g) (hl : g < w.heap.size) => hk.2 g ⟨fun e2 => h.ac g e2 e, fun e2 => h.nc (e2 ▸ e)⟩ hl
  refine ⟨(h.there1 hp).set1 0 v' (by simp), h.hB, hO.keepS fun g e _ => Below.heap_setCell _ _ _ _ (fun (e2 : g = N) => fN (e2 ▸ e)), h.ob.keepS kb, h.oc.keepS kc, ?_, fN, h.nb, h.nc, fun g e1 e2 => ?_, fun g e1 e2 => ?_, h.bc⟩
  · exact h.lie.keep ⟨hk.1, fun b hb hl => hk.2 b ⟨hb.2.2.1, hb.2.1⟩ hl⟩ fun b hl hb => ⟨hb.1, hb.2.1, hp.far hl hb.2.2.1, hb.2.2.2.1, hb.2.2.2.2⟩
  · exact hp.far (h.ob.lt g e2).2 (fun e => h.ab g e e2) e1
  · exact hp.far (h.oc.lt g e2).2 (fun e => h.ac g e e2) e1

theorem OB.set2 (h : OB S B N w va vb vc cs vs rs ps) {v' : Value} {vs' : List Va} (hp : PF vb w w' v') (hO : ROwn RVa 46 B w' v' vs') : OB S B N (w'.setCell ⟨N, 1, none⟩ v') va v' vc cs vs' rs ps := by
  have hN := h.box.1
  have hk := PF.keep (N := N) hp 1 v'
  have fN := hp.far hN h.nb
  have ka := fun g (e : va.ownBlock = some g) (hl : g < w.heap.size) => hk.2 g ⟨fun e2 => h.ab g e e2, fun e2 => h.na (e2 ▸ e)⟩ hl
  have kc := fun g (e : vc.ownBlock = some g) (hl : g < w.heap.size) => hk.2 g ⟨fun e2 => h.bc g e2 e, fun e2 => h.nc (e2 ▸ e)⟩ hl
  refine ⟨(h.there2 hp).set1 1 v' (by simp), h.hB, h.oa.keepS ka, hO.keepS fun g e _ => Below.heap_setCell _ _ _ _ (fun (e2 : g = N) => fN (e2 ▸ e)), h.oc.keepS kc, ?_, h.na, fN, h.nc, fun g e1 e2 => ?_, h.ac, fun g e1 e2 => ?_⟩
  · exact h.lie.keep ⟨hk.1, fun b hb hl => hk.2 b ⟨hb.2.2.2.1, hb.2.1⟩ hl⟩ fun b hl hb => ⟨hb.1, hb.2.1, hb.2.2.1, hp.far hl hb.2.2.2.1, hb.2.2.2.2⟩
  · exact hp.far (h.oa.lt g e1).2 (fun e => h.ab g e1 e) e2
  · exact hp.far (h.oc.lt g e2).2 (fun e => h.bc g e e2) e1

theorem OB.set3 (h : OB S B N w va vb vc cs vs rs ps) {v' : Value} {rs' : List Tr} {ps' : List Th} (hp : PF vc w w' v') (hO : ROwn RTh 27 B w' v' rs') (hL : Lie (Free S N va vb vc) w rs' ps') : OB S B N (w'.setCell ⟨N, 2, none⟩ v') va vb v' cs vs rs' ps' := by
  have hN := h.box.1
  have hk := PF.keep (N := N) hp 2 v'
  have fN := hp.far hN h.nc
  have ka := fun g (e : va.ownBlock = some g) (hl : g < w.heap.size) => hk.2 g ⟨fun e2 => h.ac g e e2, fun e2 => h.na (e2 ▸ e)⟩ hl
  have kb := fun g (e : vb.ownBlock = some g) (hl : g < w.heap.size) => hk.2 g ⟨fun e2 => h.bc g e e2, fun e2 => h.nb (e2 ▸ e)⟩ hl
  refine ⟨(h.there3 hp).set1 2 v' (by simp), h.hB, h.oa.keepS ka, h.ob.keepS kb, hO.keepS fun g e _ => Below.heap_setCell _ _ _ _ (fun (e2 : g = N) => fN (e2 ▸ e)), ?_, h.na, h.nb, fN, h.ab, fun g e1 e2 => ?_, fun g e1 e2 => ?_⟩
  · exact hL.keep ⟨hk.1, fun b hb hl => hk.2 b ⟨hb.2.2.2.2, hb.2.1⟩ hl⟩ fun b hl hb => ⟨hb.1, hb.2.1, hb.2.2.1, hb.2.2.2.1, hp.far hl hb.2.2.2.2⟩
  · exact hp.far (h.oa.lt g e1).2 (fun e => h.ac g e1 e) e2
  · exact hp.far (h.ob.lt g e1).2 (fun e => h.bc g e1 e) e2

/-- A thing that was made since, or that lay there before. -/
theorem OB.part (h : OB S B N w va vb vc cs vs rs ps) {S0 : Nat → Prop} (hS : ∀ k, k < w'.heap.size → S0 k → S k ∧ (k < B ∨ w.heap.size ≤ k)) {t : Th} {a b c : Value} (hT : TS S0 w' t a b c) : TS (fun k => Free S N va vb vc k ∧ k < w'.heap.size) w' t a b c := by
  refine TS.keep (S' := Free S N va vb vc) ⟨Nat.le_refl _, fun _ _ _ => rfl⟩ (fun k hl hk => ?_) t hT
  have f : ∀ g, B ≤ g ∧ g < w.heap.size → k ≠ g := fun g hg => by have := (hS k hl hk).2; omega
  exact ⟨(hS k hl hk).1, f N ⟨h.hB, h.box.1⟩, fun e => f k (h.oa.lt k e) rfl, fun e => f k (h.ob.lt k e) rfl, fun e => f k (h.oc.lt k e) rfl⟩

/-- The thing, when it is done. -/
theorem OB.done (h : OB S B N w va vb vc cs vs rs ps) (hS : ∀ k, B ≤ k → S k) : TS (fun k => S k ∧ k < w.heap.size) w (.mk cs vs ps) va vb vc := by
  refine TS.of (rin_els h.oa.els) (h.oa.ins.mono fun k hk => ⟨hS k hk.1, hk.2⟩) h.ob.els (h.ob.ins.mono fun k hk => ⟨hS k hk.1, hk.2⟩) (PSl.of h.oc.els (h.oc.ins.mono fun k hk => ⟨hS k hk.1, hk.2⟩) h.lie.1 fun j r t hr ht => ?_)
  have := TS.keep (S' := S) ⟨Nat.le_refl _, fun _ _ _ => rfl⟩ (fun k _ hk => hk.1.1) t (h.lie.2 j r t hr ht)
  exact this

end

end Go.Proofs.YtelhpndlejommaaGreat
