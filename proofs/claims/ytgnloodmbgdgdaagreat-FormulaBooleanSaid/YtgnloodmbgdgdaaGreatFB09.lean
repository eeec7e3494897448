import Derived.Test.YtgnloodmbgdgdaaGreatFB02
import Derived.Test.YtgnloodmbgdgdaaGreatFB08
import Derived.Test.YtgnloodmbgdgdaaGreatFB01
import Derived.Test.YtgnloodmbgdgdaaGreatFB03
namespace Go.Proofs.YtgnloodmbgdgdaaGreat
open Go.RowKit Go.Shelf
def RIn : RowOf Int where
 cells x := [.int .i64 x]
 k := 1
 len _ := rfl
 one x v h := by simp at h; rw [h]; rfl
 pos := by decide
def InS (S : Nat → Prop) (v : Value) : Prop := Emp v ∨ ∃ b off n cap, S b ∧ v = .slice (some ⟨b, off, none⟩) n cap
theorem InS.mono {S S' : Nat → Prop} {v : Value} (h : InS S v) (hs : ∀ b, S b → S' b) : InS S' v := by
 rcases h with h | ⟨b, off, n, cap, hb, h⟩
 ·exact .inl h
 ·exact .inr ⟨b, off, n, cap, hs b hb, h⟩
theorem InS.low {S : Nat → Prop} {v : Value} {B : Nat} (h : InS S v) (hs : ∀ b, S b → b < B) : LowEls B v := by
 rcases h with h | ⟨b, off, n, cap, hb, h⟩
 ·exact .inl h
 ·exact .inr ⟨b, off, n, cap, hs b hb, h⟩
def KeepS (S : Nat → Prop) (w w' : World) : Prop := w.heap.size ≤ w'.heap.size ∧ ∀ b, S b → b < w.heap.size → w'.heap[b]? = w.heap[b]?
theorem Els.keepS {S : Nat → Prop} {k : IntKind} {w w' : World} {sv : Value} {zs : List Int} (h : Els k w sv zs) (hl : InS S sv) (hk : KeepS S w w') : Els k w' sv zs := by
 rcases h with ⟨he, hz⟩ | ⟨b, off, cap, hb, rfl, hle, hc⟩
 ·exact .inl ⟨he, hz⟩
 ·have hb2 := Nat.lt_of_lt_of_le hb hk.1
  rcases hl with he | ⟨b2, off2, n2, cap2, hlt, he⟩
  ·refine .inr ⟨b, off, cap, hb2, rfl, hle, ?_⟩
   intro j hj
   rcases he with he | ⟨x, c2, he⟩
   ·cases he
   ·simp only [Value.slice.injEq] at he
    omega
  ·cases he
   exact .inr ⟨b, off, cap, hb2, rfl, hle, fun j hj => (cell_of_block (hk.2 b hlt hb) _).trans (hc j hj)⟩
theorem REls.keepS {S : Nat → Prop} {α : Type} {R : RowOf α} {w w' : World} {sv : Value} {xs : List α} (h : REls R w sv xs) (hl : InS S sv) (hk : KeepS S w w') : REls R w' sv xs := by
 rcases h with ⟨he, hz⟩ | ⟨b, cap, hb, rfl, hle, hc⟩
 ·exact .inl ⟨he, hz⟩
 ·have hb2 := Nat.lt_of_lt_of_le hb hk.1
  rcases hl with he | ⟨b2, off2, n2, cap2, hlt, he⟩
  ·refine .inr ⟨b, cap, hb2, rfl, hle, ?_⟩
   intro j x hx
   have hj := (List.getElem?_eq_some_iff.1 hx).1
   rcases he with he | ⟨x, c2, he⟩
   ·cases he
   ·simp only [Value.slice.injEq] at he
    omega
  ·cases he
   exact .inr ⟨b, cap, hb2, rfl, hle, fun j x hx i v hv => (cell_of_block (hk.2 b hlt hb) _).trans (hc j x hx i v hv)⟩
def PF (v : Value) (w w' : World) (v' : Value) : Prop := KeepS (fun k => v.ownBlock ≠ some k) w w' ∧ ∀ g, v'.ownBlock = some g → v.ownBlock = some g ∨ w.heap.size ≤ g
theorem PF.of_grown {v v' : Value} {w w' : World} (h : w.grownBy w' v.ownBlock) (hat : v'.ownBlock = v.ownBlock ∨ v'.ownBlock = some w.heap.size) : PF v w w' v' :=
 ⟨⟨h.size, fun b hb hl => h.block b hl fun e => hb e.symm⟩, fun g hg => by
  rcases hat with e | e
  ·exact .inl (e ▸ hg)
  ·rw [e] at hg; injection hg with hg; exact .inr (by omega)⟩
theorem PF.refl (v : Value) (w : World) : PF v w w v := ⟨⟨Nat.le_refl _, fun _ _ _ => rfl⟩, fun _ h => .inl h⟩
theorem PF.alloc {v v' : Value} {w w' : World} {o : Obj} (h : PF v (w.alloc o) w' v') : PF v w w' v' := by
 have hs : w.heap.size < (w.alloc o).heap.size := by simp
 refine ⟨⟨by have := h.1.1; omega, fun b hb hl => (h.1.2 b hb (by omega)).trans (Below.heap_alloc _ _ _ hl)⟩, fun g hg => ?_⟩
 rcases h.2 g hg with h | h
 ·exact .inl h
 ·exact .inr (by omega)
theorem push_row_f {P : Program} {ops : Array Oper} {rest : List Oper} {o : Oper} {act : Act} {Q : Exit → Act → World → Prop} {w : World} (hgd : o.guard = none) (s x : Operand) (t : TypeId)
  (ho : o.op = .call { callee := .builtin .append, args := #[s, x], argTypes := #[t, t] }) {α : Type} (R : RowOf α) (e : TypeId) (bytes : Nat) (z : Value) (ht : P.underlying t = some (.slice e))
  (info : (P.info? e).map (fun i => (i.zero, i.size, i.bytes)) = some (some z, R.k, bytes)) (hzc : z.cells.size = R.k) (hby : bytes ≤ 1000) (B : Nat) (v : Value) (xs ns : List α) (cs : Array Value) (T : TypeId) (hcs : cs.toList = ns.flatMap R.cells)
  (hs : act.eval s = v) (g0 m : Nat) (hg0 : w.heap.size = g0) (hm : m = ns.length) (hx : act.eval x = .slice (some ⟨g0, 0, none⟩) m m) (hown : ROwn R e B w v xs) (hB : B ≤ w.heap.size) (hl : xs.length + m ≤ 1000000000)
  (h : ∀ a n c w', Hid (n = xs.length + m) → Hid (ROwn R e B w' (.slice a n c) (xs ++ ns)) → Hid (Below B w w') → Hid (PF v w w' (.slice a n c)) → wpList P ops Q rest (act.put o.dst (.slice a n c)) w') :
  wpList P ops Q (o :: rest) act (w.alloc (.cells cs T)) := by
 subst hg0
 subst hm
 obtain ⟨i0, hi, hz0, hz1, hz2⟩ := info_parts info
 have hw := hown.below ((Below.refl _ w).alloc (Nat.le_refl _) (.cells cs T))
 refine wpList_append_own_at _ hgd s x t ho B e i0 z R.k bytes ht hi hz0 hz1 hz2 hzc R.pos v xs.length _ hs hw ⟨w.heap.size, 0, none⟩ ns.length ns.length (ns.flatMap R.cells) hx (R.flat ns) ?_ ?_ (by unfold maxLen; omega) ?_ (by simp; omega) ?_
 ·intro j u hu
  rw [← hcs] at hu
  have e : (⟨w.heap.size, 0, none⟩ : Addr).add j = ⟨w.heap.size, j, none⟩ := by by_cases h : j = 0 <;> simp [Addr.add, h]
  rw [e]
  have hb := heap_new w (.cells cs T)
  unfold World.cell?
  simp only [hb]
  rw [Array.getElem?_toList] at hu
  exact hu
 ·intro u hu
  obtain ⟨t, _, hu⟩ := List.mem_flatMap.1 hu
  exact R.one t u hu
 ·have : (xs.length + ns.length) * bytes ≤ (xs.length + ns.length) * 1000 := Nat.mul_le_mul_left _ hby
  omega
 ·intro v' w1 hO hG _ hat
  have hbl : Below B w w1 := (((Below.refl B w).alloc hB _).grown hG (by simp; omega) fun j hj => (World.ownsRow.lt hw j hj).1)
  have hO' : ROwn R e B w1 v' (xs ++ ns) := by
   unfold ROwn
   rw [List.length_append, List.flatMap_append]
   exact hO
  have hpf := (PF.of_grown hG hat).alloc
  obtain ⟨a, n, c, rfl, hn, hO⟩ := hO'.slice
  refine h a n c w1 ?_ hO hbl hpf
  have := hn.out
  rw [List.length_append] at this
  exact this
def RFl {α : Type} (R : RowOf α) (w : World) (sv : Value) (ns : List α) : Prop := (Emp sv ∧ ns = []) ∨ ∃ b off cap, sv = .slice (some ⟨b, off, none⟩) ns.length cap ∧ ∀ j u, (ns.flatMap R.cells)[j]? = some u → w.cell? ⟨b, off + j, none⟩ = some u
theorem REls.rfl' {α : Type} {R : RowOf α} {w : World} {sv : Value} {xs : List α} (h : REls R w sv xs) : RFl R w sv xs := by
 have hf := fun b n cap (e : sv = .slice (some ⟨b, 0, none⟩) n cap) => REls.flat (e ▸ h)
 rcases h with h | ⟨b, cap, hb, rfl, hl, hc⟩
 ·exact .inl h
 ·exact .inr ⟨b, 0, cap, rfl, fun j u hu => hf b _ cap rfl j u hu⟩
theorem rin_flat (zs : List Int) : zs.flatMap RIn.cells = zs.map (Value.int .i64) := by
 induction zs with
 | nil => rfl
 | cons z zs ih => rw [List.flatMap_cons, ih]; rfl
theorem Els.rfl' {w : World} {sv : Value} {xs : List Int} (h : Els .i64 w sv xs) : RFl RIn w sv xs := by
 rcases h with h | ⟨b, off, cap, hb, rfl, hle, hc⟩
 ·exact .inl h
 ·refine .inr ⟨b, off, cap, rfl, fun j u hu => ?_⟩
  rw [rin_flat, List.getElem?_map] at hu
  obtain ⟨x, hx, rfl⟩ := Option.map_eq_some_iff.1 hu
  have hj := (List.getElem?_eq_some_iff.1 hx).1
  rw [hc j hj, hx]
  rfl
theorem rin_els {w : World} {sv : Value} {xs : List Int} (h : REls RIn w sv xs) : Els .i64 w sv xs := by
 rcases h with h | ⟨b, cap, hb, rfl, hl, hc⟩
 ·exact .inl h
 ·refine .inr ⟨b, 0, cap, hb, rfl, hl, fun j hj => ?_⟩
  have hx : xs[j]? = some xs[j] := List.getElem?_eq_getElem hj
  have := hc j _ hx 0 (.int .i64 xs[j]) rfl
  rw [hx, Nat.zero_add]
  have e : j * RIn.k + 0 = j := by show j * 1 + 0 = j; omega
  rw [e] at this
  exact this
theorem push_rows_f {P : Program} {ops : Array Oper} {rest : List Oper} {o : Oper} {act : Act} {Q : Exit → Act → World → Prop} {w : World} (hgd : o.guard = none) (s x : Operand) (t : TypeId)
  (ho : o.op = .call { callee := .builtin .append, args := #[s, x], argTypes := #[t, t] }) {α : Type} (R : RowOf α) (e : TypeId) (bytes : Nat) (z : Value) (ht : P.underlying t = some (.slice e))
  (info : (P.info? e).map (fun i => (i.zero, i.size, i.bytes)) = some (some z, R.k, bytes)) (hzc : z.cells.size = R.k) (hby : bytes ≤ 1000) (B : Nat) (v : Value) (xs ns : List α) (sv : Value)
  (hs : act.eval s = v) (hx : act.eval x = sv) (hown : ROwn R e B w v xs) (hE : RFl R w sv ns) (hB : B ≤ w.heap.size) (hl : xs.length + ns.length ≤ 1000000000)
  (h : ∀ a n c w', Hid (n = xs.length + ns.length) → Hid (ROwn R e B w' (.slice a n c) (xs ++ ns)) → Hid (Below B w w') → Hid (PF v w w' (.slice a n c)) → wpList P ops Q rest (act.put o.dst (.slice a n c)) w') :
  wpList P ops Q (o :: rest) act w := by
 obtain ⟨i0, hi, hz0, hz1, hz2⟩ := info_parts info
 have fin : ∀ v' w', ROwn R e B w' v' (xs ++ ns) → Below B w w' → PF v w w' v' → wpList P ops Q rest (act.put o.dst v') w' := by
  intro v' w' hO hb hk
  obtain ⟨a, n, c, rfl, hn, hO⟩ := hO.slice
  refine h a n c w' ?_ hO hb hk
  have := hn.out
  rw [List.length_append] at this
  exact this
 have some' : ∀ (ad : Addr) (c : Nat), sv = .slice (some ad) ns.length c → (∀ j u, (ns.flatMap R.cells)[j]? = some u → w.cell? (ad.add j) = some u) → wpList P ops Q (o :: rest) act w := by
  intro ad c hsv hcells
  subst hsv
  refine wpList_append_own_at _ hgd s x t ho B e i0 z R.k bytes ht hi hz0 hz1 hz2 hzc R.pos v xs.length _ hs hown ad ns.length c (ns.flatMap R.cells) hx (R.flat ns) hcells ?_ (by unfold maxLen; omega) ?_ hB ?_
  ·intro u hu
   obtain ⟨t, _, hu⟩ := List.mem_flatMap.1 hu
   exact R.one t u hu
  ·have : (xs.length + ns.length) * bytes ≤ (xs.length + ns.length) * 1000 := Nat.mul_le_mul_left _ hby
   omega
  ·intro v' w1 hO hG _ hat
   refine fin v' w1 ?_ ((Below.refl B w).grown hG hB fun j hj => (World.ownsRow.lt hown j hj).1) (PF.of_grown hG hat)
   unfold ROwn
   rw [List.length_append, List.flatMap_append]
   exact hO
 rcases hE with ⟨rfl | ⟨ad, c, rfl⟩, rfl⟩ | ⟨b, off, cap, rfl, hc⟩
 ·refine wpList_append_own_none hgd s x t ho B e i0 R.k ht hi v xs.length _ hs hown hx ?_
  exact fin v w (by rw [List.append_nil]; exact hown) (Below.refl B w) (PF.refl v w)
 ·exact some' ad c rfl (by simp)
 ·refine some' ⟨b, off, none⟩ cap rfl fun j u hu => ?_
  have e : (⟨b, off, none⟩ : Addr).add j = ⟨b, off + j, none⟩ := by by_cases h : j = 0 <;> simp [Addr.add, h]
  rw [e]
  exact hc j u hu
theorem ROwn.keepS {α : Type} {R : RowOf α} {E : TypeId} {B : Nat} {w W : World} {sv : Value} {xs : List α} (h : ROwn R E B w sv xs) (hk : ∀ g, sv.ownBlock = some g → g < w.heap.size → W.heap[g]? = w.heap[g]?) : ROwn R E B W sv xs := by
 obtain ⟨h1, h2 | ⟨g, cap, cur, hv, hg, hh, r⟩⟩ := h
 ·exact ⟨h1, .inl h2⟩
 ·refine ⟨h1, .inr ⟨g, cap, cur, hv, hg, (hk g (by rw [hv]; rfl) (Array.getElem?_eq_some_iff.1 hh).1).trans hh, r⟩⟩
theorem ROwn.lt {α : Type} {R : RowOf α} {E : TypeId} {B : Nat} {w : World} {sv : Value} {xs : List α} (h : ROwn R E B w sv xs) : ∀ g, sv.ownBlock = some g → B ≤ g ∧ g < w.heap.size := World.ownsRow.lt h
theorem ROwn.ins {α : Type} {R : RowOf α} {E : TypeId} {B : Nat} {w : World} {sv : Value} {xs : List α} (h : ROwn R E B w sv xs) : InS (fun k => B ≤ k ∧ k < w.heap.size) sv := by
 obtain ⟨h1, ⟨h2, _⟩ | ⟨g, cap, cur, hv, hg, hh, r⟩⟩ := h
 ·exact .inl (.inl h2)
 ·exact .inr ⟨g, 0, _, cap, ⟨hg, (Array.getElem?_eq_some_iff.1 hh).1⟩, hv⟩
theorem PF.keep {N : Nat} {w w' : World} {v v' : Value} (hp : PF v w w' v') (o : Nat) (u : Value) : KeepS (fun k => v.ownBlock ≠ some k ∧ k ≠ N) w (w'.setCell ⟨N, o, none⟩ u) :=
 ⟨by rw [World.size_setCell]; exact hp.1.1, fun b hb hl => (Below.heap_setCell _ _ _ _ hb.2).trans (hp.1.2 b hb.1 hl)⟩
theorem PF.far {w w' : World} {v v' : Value} (hp : PF v w w' v') {k : Nat} (hk : k < w.heap.size) (h : v.ownBlock ≠ some k) : v'.ownBlock ≠ some k := fun e => by
 rcases hp.2 k e with e | e
 ·exact h e
 ·omega
theorem wp_row1_f {P : Program} {o : Oper} {act : Act} {K : Act → World → Prop} {Q : Exit → Act → World → Prop} {w : World} (s x : Operand) (t : TypeId)
  (ho : o.op = .call { callee := .builtin .append, args := #[s, x], argTypes := #[t, t] }) {α : Type} (R : RowOf α) (e : TypeId) (bytes : Nat) (z : Value) (ht : P.underlying t = some (.slice e))
  (info : (P.info? e).map (fun i => (i.zero, i.size, i.bytes)) = some (some z, R.k, bytes)) (hzc : z.cells.size = R.k) (hby : bytes ≤ 1000) (B : Nat) (v : Value) (xs ns : List α) (b m c0 : Nat) (hm : m = ns.length)
  (hs : act.eval s = v) (hx : act.eval x = .slice (some ⟨b, 0, none⟩) m c0) (hcell : ∀ j u, (ns.flatMap R.cells)[j]? = some u → w.cell? ⟨b, j, none⟩ = some u) (hown : ROwn R e B w v xs) (hB : B ≤ w.heap.size) (hl : xs.length + m ≤ 1000000000)
  (h : ∀ a n c w', Hid (n = xs.length + m) → Hid (ROwn R e B w' (.slice a n c) (xs ++ ns)) → Hid (Below B w w') → Hid (PF v w w' (.slice a n c)) → K (act.put o.dst (.slice a n c)) w') :
  Oper.wp P o act w K Q := by
 subst hm
 obtain ⟨i0, hi, hz0, hz1, hz2⟩ := info_parts info
 have hmul : (xs.length + ns.length) * bytes ≤ (xs.length + ns.length) * 1000 := Nat.mul_le_mul_left _ hby
 obtain ⟨v', w1, hr, hown', hgrow, _, hat⟩ := run_append_own_at (P := P) w B t o.type e i0 z R.k bytes ht hi hz0 hz1 hz2 hzc R.pos v xs.length _ hown ⟨b, 0, none⟩ ns.length c0 (ns.flatMap R.cells) (R.flat ns) (fun j u hu => by
   have e : (⟨b, 0, none⟩ : Addr).add j = ⟨b, j, none⟩ := by by_cases h : j = 0 <;> simp [Addr.add, h]
   rw [e]; exact hcell j u hu) (fun u hu => by obtain ⟨t, _, hu⟩ := List.mem_flatMap.1 hu; exact R.one t u hu) (by unfold maxLen; omega) (by omega) hB
 unfold Oper.wp execOp
 simp only [ho, resolve, invoke, builtin, Sem.run_bind, Sem.run_pure, Result.andThen_ok, List.map_toArray, List.map_cons, List.map_nil, hs, hx, hr]
 have hO' : ROwn R e B w1 v' (xs ++ ns) := by
  unfold ROwn
  rw [List.length_append, List.flatMap_append]
  exact hown'
 have hpf := PF.of_grown hgrow hat
 have hbl := (Below.refl B w).grown hgrow hB fun j hj => (World.ownsRow.lt hown j hj).1
 obtain ⟨a, n, c, rfl, hn, hO⟩ := hO'.slice
 refine h a n c w1 ?_ hO hbl hpf
 have := hn.out
 rw [List.length_append] at this
 exact this
theorem one_cells {α : Type} (R : RowOf α) (w : World) (x : α) (cs : Array Value) (T : TypeId) (hcs : cs.toList = R.cells x) : ∀ j u, ([x].flatMap R.cells)[j]? = some u → (w.alloc (.cells cs T)).cell? ⟨w.heap.size, j, none⟩ = some u := fun j u hu => by
 have hM := (BoxL.made w cs T).2 j u (by rw [hcs]; simpa using hu)
 exact hM.1
theorem cell_set {w : World} {M N o p : Nat} {u v : Value} (hne : M ≠ N) (h : w.cell? ⟨M, o, none⟩ = some u) : (w.setCell ⟨N, p, none⟩ v).cell? ⟨M, o, none⟩ = some u :=
 (cell_of_block (Below.heap_setCell _ _ _ _ hne) o).trans h
end Go.Proofs.YtgnloodmbgdgdaaGreat
namespace Go.Proofs.YtgnloodmbgdgdaaGreat
open Go.RowKit
structure Va where
 t : Int
 n : Int
 d : Int
deriving DecidableEq, Inhabited
def RVa : RowOf Va where
 cells x := [.int .i64 x.t, .int .i64 x.n, .int .i64 x.d]
 k := 3
 len _ := rfl
 one x v h := by simp at h; rcases h with rfl | rfl | rfl <;> rfl
 pos := by decide
def Va.v (x : Va) : Value := .agg #[.int .i64 x.t, .int .i64 x.n, .int .i64 x.d]
inductive Th where
 | mk (cs : List Int) (vs : List Va) (ps : List Th)
def Th.cs : Th → List Int | .mk cs _ _ => cs
def Th.vs : Th → List Va | .mk _ vs _ => vs
def Th.ps : Th → List Th | .mk _ _ ps => ps
mutual
def Th.size : Th → Nat
 | .mk _ _ ps => 1 + Th.sizes ps
def Th.sizes : List Th → Nat
 | [] => 0
 | t :: ts => t.size + Th.sizes ts
end
mutual
def Th.deep : Th → Nat
 | .mk _ _ ps => Th.deeps ps + 1
def Th.deeps : List Th → Nat
 | [] => 0
 | t :: ts => max t.deep (Th.deeps ts)
end
theorem Th.size_pos (t : Th) : 1 ≤ t.size := by
 cases t
 rw [Th.size]
 omega
theorem Th.sizes_append (a b : List Th) : Th.sizes (a ++ b) = Th.sizes a + Th.sizes b := by
 induction a with
 | nil => simp [Th.sizes]
 | cons t ts ih => rw [List.cons_append, Th.sizes, Th.sizes, ih]; omega
theorem Th.deeps_append (a b : List Th) : Th.deeps (a ++ b) = max (Th.deeps a) (Th.deeps b) := by
 induction a with
 | nil => simp [Th.deeps]
 | cons t ts ih => rw [List.cons_append, Th.deeps, Th.deeps, ih]; omega
theorem Th.sizes_mem {ts : List Th} {t : Th} (h : t ∈ ts) : t.size ≤ Th.sizes ts := by
 induction ts with
 | nil => cases h
 | cons u us ih =>
  rw [Th.sizes]
  rcases List.mem_cons.1 h with rfl | h
  ·omega
  ·have := ih h; omega
theorem Th.sizes_take (ts : List Th) (k : Nat) : Th.sizes (ts.take k) ≤ Th.sizes ts := by
 have := Th.sizes_append (ts.take k) (ts.drop k)
 rw [List.take_append_drop] at this
 omega
theorem Th.sizes_len (ts : List Th) : ts.length ≤ Th.sizes ts := by
 induction ts with
 | nil => simp
 | cons u us ih =>
  rw [Th.sizes, List.length_cons]
  have := u.size_pos
  omega
theorem Th.sizes_snoc {ts : List Th} {k : Nat} {t : Th} (h : ts[k]? = some t) : Th.sizes (ts.take (k + 1)) = Th.sizes (ts.take k) + t.size := by
 rw [List.take_add_one, h, Th.sizes_append]
 simp [Th.sizes]
theorem Th.deeps_snoc {ts : List Th} {k : Nat} {t : Th} (h : ts[k]? = some t) : Th.deeps (ts.take (k + 1)) = max (Th.deeps (ts.take k)) t.deep := by
 rw [List.take_add_one, h, Th.deeps_append]
 simp [Th.deeps]
mutual
def TAt (B : Nat) (w : World) : Th → Value → Value → Value → Prop
 | .mk cs vs ps, a, b, c => (Els .i64 w a cs ∧ LowEls B a) ∧ (REls RVa w b vs ∧ LowEls B b) ∧ ((Emp c ∧ ps = []) ∨ ∃ g cap, g < B ∧ g < w.heap.size ∧ c = .slice (some ⟨g, 0, none⟩) ps.length cap ∧ ps.length ≤ cap ∧ PAt B w ps g 0)
def PAt (B : Nat) (w : World) : List Th → Nat → Nat → Prop
 | [], _, _ => True
 | t :: ts, g, o => (∃ a b c, w.cell? ⟨g, o, none⟩ = some a ∧ w.cell? ⟨g, o + 1, none⟩ = some b ∧ w.cell? ⟨g, o + 2, none⟩ = some c ∧ TAt B w t a b c) ∧ PAt B w ts g (o + 3)
end
def Ps (B : Nat) (w : World) (c : Value) (ps : List Th) : Prop := (Emp c ∧ ps = []) ∨ ∃ g cap, g < B ∧ g < w.heap.size ∧ c = .slice (some ⟨g, 0, none⟩) ps.length cap ∧ ps.length ≤ cap ∧ PAt B w ps g 0
theorem TAt.parts {B : Nat} {w : World} {cs : List Int} {vs : List Va} {ps : List Th} {a b c : Value} (h : TAt B w (.mk cs vs ps) a b c) : (Els .i64 w a cs ∧ LowEls B a) ∧ (REls RVa w b vs ∧ LowEls B b) ∧ Ps B w c ps := h
theorem TAt.of {B : Nat} {w : World} {cs : List Int} {vs : List Va} {ps : List Th} {a b c : Value} (h1 : Els .i64 w a cs) (l1 : LowEls B a) (h2 : REls RVa w b vs) (l2 : LowEls B b) (h3 : Ps B w c ps) : TAt B w (.mk cs vs ps) a b c := ⟨⟨h1, l1⟩, ⟨h2, l2⟩, h3⟩
theorem REls.low {α : Type} {R : RowOf α} {p : Nat} {w w' : World} {sv : Value} {xs : List α} (h : REls R w sv xs) (hl : LowEls p sv) (hB : Below p w w') : REls R w' sv xs := by
 rcases h with ⟨he, hz⟩ | ⟨b, cap, hb, rfl, hle, hc⟩
 ·exact .inl ⟨he, hz⟩
 ·have hb2 := Nat.lt_of_lt_of_le hb hB.size
  rcases hl with he | ⟨b2, off2, n2, cap2, hlt, he⟩
  ·refine .inr ⟨b, cap, hb2, rfl, hle, ?_⟩
   intro j x hx
   have hj := (List.getElem?_eq_some_iff.1 hx).1
   rcases he with he | ⟨x, c2, he⟩
   ·cases he
   ·simp only [Value.slice.injEq] at he
    omega
  ·cases he
   exact .inr ⟨b, cap, hb2, rfl, hle, fun j x hx i v hv => (hB.cell (p := ⟨b, j * R.k + i, none⟩) hlt).trans (hc j x hx i v hv)⟩
mutual
theorem TAt.low {B : Nat} {w W : World} (hB : Below B w W) : ∀ (t : Th) {a b c : Value}, TAt B w t a b c → TAt B W t a b c
 | .mk cs vs ps, a, b, c, h => by
  obtain ⟨⟨h1, l1⟩, ⟨h2, l2⟩, h3⟩ := h.parts
  refine TAt.of (h1.low l1 hB) l1 (h2.low l2 hB) l2 ?_
  rcases h3 with h3 | ⟨g, cap, hg, hgs, e, hl, hp⟩
  ·exact .inl h3
  ·exact .inr ⟨g, cap, hg, Nat.lt_of_lt_of_le hgs hB.size, e, hl, PAt.low hB ps hg hp⟩
theorem PAt.low {B : Nat} {w W : World} (hB : Below B w W) : ∀ (ts : List Th) {g o : Nat}, g < B → PAt B w ts g o → PAt B W ts g o
 | [], _, _, _, _ => trivial
 | t :: ts, g, o, hg, h => by
  obtain ⟨⟨a, b, c, h1, h2, h3, h4⟩, h5⟩ := h
  exact ⟨⟨a, b, c, (hB.cell (p := ⟨g, o, none⟩) hg).trans h1, (hB.cell (p := ⟨g, o + 1, none⟩) hg).trans h2, (hB.cell (p := ⟨g, o + 2, none⟩) hg).trans h3, TAt.low hB t h4⟩, PAt.low hB ts hg h5⟩
end
theorem Ps.low {B : Nat} {w W : World} (hB : Below B w W) {c : Value} {ps : List Th} (h : Ps B w c ps) : Ps B W c ps := by
 rcases h with h3 | ⟨g, cap, hg, hgs, e, hl, hp⟩
 ·exact .inl h3
 ·exact .inr ⟨g, cap, hg, Nat.lt_of_lt_of_le hgs hB.size, e, hl, PAt.low hB ps hg hp⟩
mutual
theorem TAt.mono {B B' : Nat} {w : World} (hB : B ≤ B') : ∀ (t : Th) {a b c : Value}, TAt B w t a b c → TAt B' w t a b c
 | .mk cs vs ps, a, b, c, h => by
  obtain ⟨⟨h1, l1⟩, ⟨h2, l2⟩, h3⟩ := h.parts
  refine TAt.of h1 (l1.mono hB) h2 (l2.mono hB) ?_
  rcases h3 with h3 | ⟨g, cap, hg, hgs, e, hl, hp⟩
  ·exact .inl h3
  ·exact .inr ⟨g, cap, by omega, hgs, e, hl, PAt.mono hB ps hp⟩
theorem PAt.mono {B B' : Nat} {w : World} (hB : B ≤ B') : ∀ (ts : List Th) {g o : Nat}, PAt B w ts g o → PAt B' w ts g o
 | [], _, _, _ => trivial
 | t :: ts, g, o, h => by
  obtain ⟨⟨a, b, c, h1, h2, h3, h4⟩, h5⟩ := h
  exact ⟨⟨a, b, c, h1, h2, h3, TAt.mono hB t h4⟩, PAt.mono hB ts h5⟩
end
theorem Ps.mono {B B' : Nat} {w : World} (hB : B ≤ B') {c : Value} {ps : List Th} (h : Ps B w c ps) : Ps B' w c ps := by
 rcases h with h3 | ⟨g, cap, hg, hgs, e, hl, hp⟩
 ·exact .inl h3
 ·exact .inr ⟨g, cap, by omega, hgs, e, hl, PAt.mono hB ps hp⟩
theorem TAt.below {w W : World} (hB : Below w.heap.size w W) {t : Th} {a b c : Value} (h : TAt w.heap.size w t a b c) : TAt W.heap.size W t a b c := (h.low hB).mono hB.size
theorem Ps.below {w W : World} (hB : Below w.heap.size w W) {c : Value} {ps : List Th} (h : Ps w.heap.size w c ps) : Ps W.heap.size W c ps := (h.low hB).mono hB.size
theorem PAt.get {B : Nat} {w : World} : ∀ (ts : List Th) {g o : Nat}, PAt B w ts g o → ∀ j t, ts[j]? = some t → ∃ a b c, w.cell? ⟨g, o + j * 3, none⟩ = some a ∧ w.cell? ⟨g, o + j * 3 + 1, none⟩ = some b ∧ w.cell? ⟨g, o + j * 3 + 2, none⟩ = some c ∧ TAt B w t a b c
 | [], _, _, _, j, t, hj => by simp at hj
 | u :: us, g, o, h, 0, t, hj => by
  simp at hj
  subst hj
  obtain ⟨⟨a, b, c, h1, h2, h3, h4⟩, _⟩ := h
  exact ⟨a, b, c, by simpa using h1, by simpa using h2, by simpa using h3, h4⟩
 | u :: us, g, o, h, j + 1, t, hj => by
  rw [List.getElem?_cons_succ] at hj
  have := PAt.get us h.2 j t hj
  rw [show o + 3 + j * 3 = o + (j + 1) * 3 by omega] at this
  exact this
theorem PAt.of_get {B : Nat} {w : World} : ∀ (ts : List Th) {g o : Nat}, (∀ j t, ts[j]? = some t → ∃ a b c, w.cell? ⟨g, o + j * 3, none⟩ = some a ∧ w.cell? ⟨g, o + j * 3 + 1, none⟩ = some b ∧ w.cell? ⟨g, o + j * 3 + 2, none⟩ = some c ∧ TAt B w t a b c) → PAt B w ts g o
 | [], _, _, _ => trivial
 | u :: us, g, o, h => by
  refine ⟨?_, PAt.of_get us fun j t hj => ?_⟩
  ·obtain ⟨a, b, c, h1, h2, h3, h4⟩ := h 0 u rfl
   exact ⟨a, b, c, by simpa using h1, by simpa using h2, by simpa using h3, h4⟩
  ·have := h (j + 1) t (by rw [List.getElem?_cons_succ]; exact hj)
   rw [show o + (j + 1) * 3 = o + 3 + j * 3 by omega] at this
   exact this
theorem Ps.shape {B : Nat} {w : World} {c : Value} {ps : List Th} (h : Ps B w c ps) : ∃ a cap, c = .slice a ps.length cap := by
 rcases h with ⟨he, rfl⟩ | ⟨g, cap, _, _, he, _⟩
 ·exact he.shape
 ·exact ⟨_, _, he⟩
theorem Ps.len {B : Nat} {w : World} {a : Option Addr} {n cap : Nat} {ps : List Th} (h : Ps B w (.slice a n cap) ps) : n = ps.length := by
 obtain ⟨a, c, he⟩ := h.shape
 cases he
 rfl
theorem Ps.get {B : Nat} {w : World} {a : Option Addr} {n cap : Nat} {ps : List Th} (h : Ps B w (.slice a n cap) ps) {j : Nat} (hj : j < n) :
  ∃ g t, a = some ⟨g, 0, none⟩ ∧ g < B ∧ g < w.heap.size ∧ n ≤ cap ∧ ps[j]? = some t ∧ ∃ a b c, w.cell? ⟨g, j * 3, none⟩ = some a ∧ w.cell? ⟨g, j * 3 + 1, none⟩ = some b ∧ w.cell? ⟨g, j * 3 + 2, none⟩ = some c ∧ TAt B w t a b c := by
 have hn := h.len
 rcases h with ⟨he, rfl⟩ | ⟨g, cap', hg, hgs, he, hl, hp⟩
 ·simp at hn
  omega
 ·cases he
  obtain ⟨t, ht⟩ : ∃ t, ps[j]? = some t := ⟨ps[j], List.getElem?_eq_getElem (by omega)⟩
  have := PAt.get ps hp j t ht
  rw [Nat.zero_add] at this
  exact ⟨g, t, rfl, hg, hgs, hl, ht, this⟩
theorem TAt.shape {B : Nat} {w : World} {t : Th} {a b c : Value} (h : TAt B w t a b c) : ∃ a1 c1 a2 c2 a3 c3, a = .slice a1 t.cs.length c1 ∧ b = .slice a2 t.vs.length c2 ∧ c = .slice a3 t.ps.length c3 ∧ Els .i64 w a t.cs ∧ REls RVa w b t.vs ∧ Ps B w c t.ps ∧ LowEls B a ∧ LowEls B b := by
 obtain ⟨cs, vs, ps⟩ := t
 obtain ⟨⟨h1, l1⟩, ⟨h2, l2⟩, h3⟩ := h.parts
 obtain ⟨a1, c1, e1⟩ := h1.shape
 obtain ⟨a2, c2, e2⟩ := h2.shape
 obtain ⟨a3, c3, e3⟩ := h3.shape
 exact ⟨a1, c1, a2, c2, a3, c3, e1, e2, e3, h1, h2, h3, l1, l2⟩
theorem Th.size_eq (t : Th) : t.size = 1 + Th.sizes t.ps := by cases t; rfl
theorem Th.deep_eq (t : Th) : t.deep = Th.deeps t.ps + 1 := by cases t; rfl
end Go.Proofs.YtgnloodmbgdgdaaGreat
namespace Go.Proofs.YtgnloodmbgdgdaaGreat
open Go.RowKit Go.Shelf
theorem TAt.under {w : World} {t : Th} {a b c : Value} (h : TAt w.heap.size w t a b c) (o : Obj) : TAt (w.alloc o).heap.size (w.alloc o) t a b c := TAt.below ((Below.refl _ _).alloc (Nat.le_refl _) o) h
end Go.Proofs.YtgnloodmbgdgdaaGreat
namespace Go.Proofs.YtgnloodmbgdgdaaGreat
open Go.RowKit Go.Shelf
def Inc (lim : Int) (l : List Int) : Prop := ∀ (i : Nat) (x : Int), l[i]? = some x → 0 ≤ x ∧ x < lim ∧ ∀ y, 0 < i → l[i - 1]? = some y → y < x
def lastI (l : List Int) (k : Nat) : Int := if k = 0 then -1 else l[k - 1]?.getD 0
theorem Inc.nil (lim : Int) : Inc lim [] := fun i x h => by simp at h
theorem Inc.take {lim : Int} {l : List Int} (h : Inc lim l) (k : Nat) : Inc lim (l.take k) := by
 intro i x hx
 have hi : i < k := by
  have := (List.getElem?_eq_some_iff.1 hx).1
  rw [List.length_take] at this
  omega
 rw [List.getElem?_take_of_lt hi] at hx
 obtain ⟨h1, h2, h3⟩ := h i x hx
 refine ⟨h1, h2, fun y h0 hy => h3 y h0 ?_⟩
 rwa [List.getElem?_take_of_lt (by omega)] at hy
theorem lastI_ge {lim : Int} {l : List Int} {k : Nat} (h : Inc lim (l.take k)) (hk : k ≤ l.length) : -1 ≤ lastI l k := by
 unfold lastI
 by_cases h0 : k = 0
 ·rw [if_pos h0]; omega
 ·rw [if_neg h0, List.getElem?_eq_getElem (by omega)]
  have := h (k - 1) l[k - 1] (by rw [List.getElem?_take_of_lt (by omega)]; exact List.getElem?_eq_getElem (by omega))
  simp only [Option.getD_some]
  omega
theorem Inc.snoc {lim : Int} {l : List Int} {k : Nat} {x : Int} (h : Inc lim (l.take k)) (hx : l[k]? = some x) (h1 : lastI l k < x) (h2 : x < lim) : Inc lim (l.take (k + 1)) := by
 have hk := (List.getElem?_eq_some_iff.1 hx).1
 intro i z hz
 have hi : i < k + 1 := by
  have := (List.getElem?_eq_some_iff.1 hz).1
  rw [List.length_take] at this
  omega
 rw [List.getElem?_take_of_lt hi] at hz
 by_cases e : i = k
 ·subst e
  rw [hx] at hz
  cases hz
  have := lastI_ge h (by omega)
  refine ⟨by omega, h2, fun y h0 hy => ?_⟩
  rw [List.getElem?_take_of_lt (by omega)] at hy
  unfold lastI at h1
  rw [if_neg (by omega), hy] at h1
  exact h1
 ·obtain ⟨a1, a2, a3⟩ := h i z (by rw [List.getElem?_take_of_lt (by omega)]; exact hz)
  refine ⟨a1, a2, fun y h0 hy => a3 y h0 ?_⟩
  rw [List.getElem?_take_of_lt (by omega)] at hy ⊢
  exact hy
theorem Inc.fail {lim : Int} {l : List Int} {k : Nat} {x : Int} (hx : l[k]? = some x) (h : x ≤ lastI l k ∨ lim ≤ x) : ¬ Inc lim l := by
 intro hi
 have hk := (List.getElem?_eq_some_iff.1 hx).1
 obtain ⟨h1, h2, h3⟩ := hi k x hx
 rcases h with h | h
 ·unfold lastI at h
  by_cases h0 : k = 0
  ·rw [if_pos h0] at h; omega
  ·rw [if_neg h0] at h
   have hy := List.getElem?_eq_getElem (l := l) (show k - 1 < l.length by omega)
   have := h3 _ (by omega) hy
   rw [hy] at h
   simp only [Option.getD_some] at h
   omega
 ·omega
theorem lastI_succ {l : List Int} {k : Nat} {x : Int} (hx : l[k]? = some x) : lastI l (k + 1) = x := by
 unfold lastI
 rw [if_neg (by omega), show k + 1 - 1 = k by omega, hx]
 rfl
open Classical in
noncomputable def incB (lim : Int) (l : List Int) : Bool := decide (Inc lim l)
open Classical in
theorem incB_t {lim : Int} {l : List Int} (h : Inc lim l) : incB lim l = true := by unfold incB; exact decide_eq_true h
open Classical in
theorem incB_f {lim : Int} {l : List Int} (h : ¬ Inc lim l) : incB lim l = false := by unfold incB; exact decide_eq_false h
open Classical in
theorem incB_iff {lim : Int} {l : List Int} : incB lim l = true ↔ Inc lim l := by unfold incB; exact decide_eq_true_iff
set_option maxHeartbeats 4000000 in
set_option maxRecDepth 100000 in
theorem inc_any (a : Option Addr) (n c : Nat) (l : List Int) (lim : Int) (w : World) (h : Els .i64 w (.slice a n c) l) (hn : n ≤ 1000000000) :
  Calls Tryz.prog 156 #[.slice a n c, .int .i64 lim] w fun e w' => e = .returned (.bool (incB lim l)) ∧ w = w' := by
 have HE := Lib.hid h
 have HN := Lib.hid h.len
 clear h
 go_enter Tryz.func156, Tryz.ntmps156
 go_wp2
 go_loopw [5, 10] (fun s x wr => ∃ k : Nat, ∃ y : Int, k ≤ n ∧ x = .int .i64 k ∧ s = .int .i64 y ∧ Hid (y = lastI l k) ∧ Hid (Inc lim (l.take k)) ∧ wr = w) (fun _ x _ => n - (intOf x).toNat)
 case atStart => exact ⟨0, -1, by omega, rfl, rfl, rfl, Inc.nil _, rfl⟩
 case round =>
  obtain ⟨k, y, hk, rfl, rfl, hy, hI, rfl⟩ := hrel
  by_cases hlt : k < n
  ·have i1 : (k : Int) < n := by omega
   obtain ⟨b, off, rfl, hc0⟩ := HE.out.at k hlt
   have hx : l[k]? = some (l[k]?.getD 0) := by rw [List.getElem?_eq_getElem (by have := HN.out; omega)]; rfl
   generalize l[k]?.getD 0 = x at *
   by_cases h1 : x ≤ y
   ·have hF : incB lim l = false := incB_f (Inc.fail hx (.inl (by rw [← hy.out]; exact h1)))
    have HF := Lib.hid hF
    clear hF hx
    go_wp2
    go_ret
    exact ⟨ret_bool HF.out.symm, rfl⟩
   ·have h2 : y < x := by omega
    by_cases h3 : lim ≤ x
    ·have hF : incB lim l = false := incB_f (Inc.fail hx (.inr h3))
     have HF := Lib.hid hF
     clear hF hx
     go_wp2
     go_ret
     exact ⟨ret_bool HF.out.symm, rfl⟩
    ·have h4 : x < lim := by omega
     have HI : Hid (Inc lim (l.take (k + 1))) := Lib.hid (hI.out.snoc hx (by rw [← hy.out]; exact h2) h4)
     have HY : Hid (x = lastI l (k + 1)) := Lib.hid (lastI_succ hx).symm
     clear hx hI hy
     go_wp2
     go_roundw
     case rel => exact ⟨k + 1, x, by omega, by go_num, rfl, HY, HI, (by first | rfl | trivial)⟩
     case measure => simp [intOf]; omega
  ·have i1 : ¬ (k : Int) < n := by omega
   have hF : incB lim l = true := incB_t (by have := hI.out; rwa [List.take_of_length_le (by have := HN.out; omega)] at this)
   have HF := Lib.hid hF
   clear hF
   go_wp2
   go_ret
   exact ⟨ret_bool HF.out.symm, rfl⟩
def Va.ok (v : Va) : Prop := Qm.Ok v.n v.d ∧ v.d ≤ 65536
def Va.wf (v : Va) : Prop := I64 v.t ∧ I64 v.n ∧ I64 v.d
def NodeOk (cs : List Int) (vs : List Va) : Prop := Inc 64 cs ∧ (∀ v ∈ vs, v.ok) ∧ Inc 32 (vs.map Va.t)
mutual
def Th.good : Th → Prop
 | .mk cs vs ps => NodeOk cs vs ∧ Th.goods ps
def Th.goods : List Th → Prop
 | [] => True
 | t :: ts => t.good ∧ Th.goods ts
end
mutual
def Th.wf : Th → Prop
 | .mk cs vs ps => (((∀ z ∈ cs, I64 z) ∧ cs.length ≤ 1000000) ∧ (∀ v ∈ vs, v.wf) ∧ vs.length ≤ 1000000) ∧ Th.wfs ps
def Th.wfs : List Th → Prop
 | [] => True
 | t :: ts => t.wf ∧ Th.wfs ts
end
theorem Th.goods_all {ts : List Th} : Th.goods ts ↔ ∀ t ∈ ts, t.good := by
 induction ts with
 | nil => simp [Th.goods]
 | cons t ts ih => rw [Th.goods, ih, List.forall_mem_cons]
theorem Th.wfs_all {ts : List Th} : Th.wfs ts ↔ ∀ t ∈ ts, t.wf := by
 induction ts with
 | nil => simp [Th.wfs]
 | cons t ts ih => rw [Th.wfs, ih, List.forall_mem_cons]
theorem Th.good_eq (t : Th) : t.good ↔ NodeOk t.cs t.vs ∧ ∀ u ∈ t.ps, u.good := by
 cases t
 rw [Th.good, Th.goods_all]
 rfl
theorem Th.wf_eq (t : Th) : t.wf ↔ (((∀ z ∈ t.cs, I64 z) ∧ t.cs.length ≤ 1000000) ∧ (∀ v ∈ t.vs, v.wf) ∧ t.vs.length ≤ 1000000) ∧ ∀ u ∈ t.ps, u.wf := by
 cases t
 rw [Th.wf, Th.wfs_all]
 rfl
open Classical in
noncomputable def Th.goodB (t : Th) : Bool := decide t.good
open Classical in
theorem Th.goodB_t {t : Th} (h : t.good) : t.goodB = true := by unfold Th.goodB; exact decide_eq_true h
open Classical in
theorem Th.goodB_f {t : Th} (h : ¬ t.good) : t.goodB = false := by unfold Th.goodB; exact decide_eq_false h
open Classical in
theorem Th.goodB_iff {t : Th} : t.goodB = true ↔ t.good := by unfold Th.goodB; exact decide_eq_true_iff
theorem va_at {w : World} {b n c : Nat} {vs : List Va} {j : Nat} {v : Va} (h : REls RVa w (.slice (some ⟨b, 0, none⟩) n c) vs) (hv : vs[j]? = some v) :
  w.cell? ⟨b, j * 3, none⟩ = some (.int .i64 v.t) ∧ w.cell? ⟨b, j * 3 + 1, none⟩ = some (.int .i64 v.n) ∧ w.cell? ⟨b, j * 3 + 2, none⟩ = some (.int .i64 v.d) ∧ b < w.heap.size := by
 have hn := h.len
 have hj : j < n := by rw [hn]; exact (List.getElem?_eq_some_iff.1 hv).1
 obtain ⟨b', e, hb, hc, hat⟩ := h.get hj
 cases e
 have g := fun i u hu => hat j v hv i u hu
 exact ⟨g 0 _ rfl, g 1 _ rfl, g 2 _ rfl, hb⟩
theorem map_snoc {vs : List Va} {k : Nat} {v : Va} (h : vs[k]? = some v) : (vs.take (k + 1)).map Va.t = (vs.take k).map Va.t ++ [v.t] := by
 rw [List.take_add_one, h, List.map_append]
 rfl
def IdxT (ts : List Th) (S : Th → Prop) (w : World) (e : Ending) (w' : World) : Prop := ∃ v : Int, e = .returned (.int .i64 v) ∧ ((∀ t ∈ ts, S t) ∧ v = -1 ∨ ¬ (∀ t ∈ ts, S t) ∧ 0 ≤ v) ∧ Below w.heap.size w w'
end Go.Proofs.YtgnloodmbgdgdaaGreat
namespace Go.Proofs.YtgnloodmbgdgdaaGreat
open Go.RowKit Go.Shelf
def Va.nums (v : Va) : List Int := [v.t, v.n, v.d]
def numsL (vs : List Va) : List Int := vs.flatMap Va.nums
mutual
def Th.enc : Th → List Int
 | .mk cs vs ps => (Hm.uv cs.length ++ encs cs) ++ (Hm.uv (Hm.zig (vs.length : Int)) ++ encs (numsL vs)) ++ (Hm.uv (Hm.zig (ps.length : Int)) ++ Th.encL ps)
def Th.encL : List Th → List Int
 | [] => []
 | t :: ts => t.enc ++ Th.encL ts
end
mutual
def Th.wt : Th → Nat
 | .mk cs vs ps => 3 + cs.length + 3 * vs.length + Th.wts ps
def Th.wts : List Th → Nat
 | [] => 0
 | t :: ts => t.wt + Th.wts ts
end
theorem Th.wt_eq (t : Th) : t.wt = 3 + t.cs.length + 3 * t.vs.length + Th.wts t.ps := by cases t; rfl
theorem Th.wts_append (a b : List Th) : Th.wts (a ++ b) = Th.wts a + Th.wts b := by
 induction a with
 | nil => simp [Th.wts]
 | cons t ts ih => rw [List.cons_append, Th.wts, Th.wts, ih]; omega
end Go.Proofs.YtgnloodmbgdgdaaGreat
