import Derived.Test.YtgnloodmbgdgdaaGreatProg
import Derived.Test.YtgnloodmbgdgdaaGreatFB03
import Derived.Test.YtgnloodmbgdgdaaGreatFB01
import Derived.OneCell
import Derived.WalkSpells
import Derived.Outline
import Derived.Lib.AppendStr
namespace Go.Proofs.YtgnloodmbgdgdaaGreat
open Go.RowKit Go.Shelf
theorem push_all {P : Program} {ops : Array Oper} {rest : List Oper} {o : Oper} {act : Act} {Q : Exit → Act → World → Prop} {w : World} (hgd : o.guard = none) (s x : Operand) (t : TypeId)
  (ho : o.op = .call { callee := .builtin .append, args := #[s, x], argTypes := #[t, t] }) (k : IntKind) (e : TypeId) (bytes : Nat) (ht : P.underlying t = some (.slice e))
  (info : (P.info? e).map (fun i => (i.zero, i.size, i.bytes)) = some (some (.int k 0), 1, bytes)) (hby : bytes ≤ 8) (B : Nat) (v : Value) (zs : List Int) (sv : Value) (ys : List Int)
  (hs : act.eval s = v) (hx : act.eval x = sv) (hown : Own k e B w v zs) (hE : Els k w sv ys) (hB : B ≤ w.heap.size) (hl : zs.length + ys.length ≤ 1000000000000)
  (h : ∀ a n c w', Hid (n = zs.length + ys.length) → Hid (Own k e B w' (.slice a n c) (zs ++ ys)) → Hid (Below B w w') → wpList P ops Q rest (act.put o.dst (.slice a n c)) w') :
  wpList P ops Q (o :: rest) act w := by
 obtain ⟨i0, hi, hz0, hz1, hz2⟩ := info_parts info
 have fin : ∀ v' w', Own k e B w' v' (zs ++ ys) → Below B w w' → wpList P ops Q rest (act.put o.dst v') w' := by
  intro v' w' hO hb
  obtain ⟨a, n, c, rfl, hn, hO⟩ := Own.slice hO
  refine h a n c w' ?_ hO hb
  have := hn.out
  rw [List.length_append] at this
  exact this
 have some' : ∀ (ad : Addr) (c : Nat), sv = .slice (some ad) ys.length c → (∀ j u, (ys.map (Value.int k))[j]? = some u → w.cell? (ad.add j) = some u) → wpList P ops Q (o :: rest) act w := by
  intro ad c hsv hcells
  subst hsv
  have hmul : (zs.length + ys.length) * bytes ≤ (zs.length + ys.length) * 8 := Nat.mul_le_mul_left _ hby
  refine wpList_append_own _ hgd s x t ho B e i0 (.int k 0) 1 bytes ht hi hz0 hz1 hz2 rfl (by decide) v zs.length _ hs hown ad ys.length c (ys.map (Value.int k)) hx (by simp) hcells (ints_oneCell k ys) (by unfold maxLen; omega) (by omega) hB ?_
  intro v' w1 hown' hgrow _
  refine fin v' w1 ?_ ((Below.refl B w).grown hgrow hB fun j hj => hown.lt j hj)
  unfold Own
  rw [List.length_append, List.map_append]
  exact hown'
 rcases hE with ⟨rfl | ⟨ad, c, rfl⟩, rfl⟩ | ⟨b, off, cap, hb, rfl, hle, hc⟩
 ·refine wpList_append_own_none hgd s x t ho B e i0 1 ht hi v zs.length _ hs hown hx ?_
  exact fin v w (by rw [List.append_nil]; exact hown) (Below.refl B w)
 ·exact some' ad c rfl (by simp)
 ·refine some' ⟨b, off, none⟩ cap rfl ?_
  have := news_at (k := k) (w := w) (b := b) (off := off) (zs := ys) (Nat.le_refl _) hc
  rw [List.take_length] at this
  exact this
def Wr (p B : Nat) (w : World) (zs : List Int) : Prop :=
 ∃ v T, p < B ∧ B ≤ w.heap.size ∧ w.heap[p]? = some (.cells #[v] T (0, 0)) ∧ Own .u8 5 B w v zs
theorem Wr.open {p B : Nat} {w : World} {zs : List Int} (h : Wr p B w zs) :
  ∃ a n c, w.cell? ⟨p, 0, none⟩ = some (.slice a n c) ∧ w.frozen? ⟨p, 0, none⟩ = false ∧ Hid (n = zs.length) ∧ Hid (Own .u8 5 B w (.slice a n c) zs) := by
 obtain ⟨v, T, hp, hB, hb, hO⟩ := h
 obtain ⟨a, n, c, rfl, hn, hO⟩ := hO.slice
 exact ⟨a, n, c, cell_of_one hb, free_of_one hb, hn, hO⟩
theorem Wr.lt {p B : Nat} {w : World} {zs : List Int} (h : Wr p B w zs) : p < B ∧ B ≤ w.heap.size := by
 obtain ⟨v, T, hp, hB, _⟩ := h
 exact ⟨hp, hB⟩
theorem Wr.keep {p B : Nat} {w w' : World} {zs : List Int} (h : Wr p B w zs) (hs : w.heap.size ≤ w'.heap.size) (hk : ∀ k, p ≤ k → k < w.heap.size → w'.heap[k]? = w.heap[k]?) : Wr p B w' zs := by
 obtain ⟨v, T, hp, hB, hb, hx, hO⟩ := h
 refine ⟨v, T, hp, by omega, (hk p (Nat.le_refl _) (by omega)).trans hb, hx, ?_⟩
 rcases hO with hv | ⟨g, cap, cur, hv, hg, hc, hr⟩
 ·exact .inl hv
 ·exact .inr ⟨g, cap, cur, hv, hg, (hk g (by omega) (Array.getElem?_eq_some_iff.1 hc).1).trans hc, hr⟩
theorem Wr.below {p B : Nat} {w w' : World} {zs : List Int} (h : Wr p B w zs) (hB : Below w.heap.size w w') : Wr p B w' zs :=
 h.keep hB.size fun k _ hk => hB.block k hk
theorem Wr.put {p B : Nat} {w w' : World} {zs ys : List Int} {v : Value} (h : Wr p B w zs) (hB : Below B w w') (hO : Own .u8 5 B w' v ys) : Wr p B (w'.setCell ⟨p, 0, none⟩ v) ys := by
 obtain ⟨u, T, hp, hb0, hb, _⟩ := h
 refine ⟨v, T, hp, ?_, one_setCell ((hB.block p hp).trans hb), ownsRow_setCell_below hO hp v⟩
 have := hB.size
 simp [World.setCell]
 omega
theorem Wr.there {p B : Nat} {w w' : World} {zs : List Int} (h : Wr p B w zs) (hB : Below B w w') {v : Value} (hc : w.cell? ⟨p, 0, none⟩ = some v) (hf : w.frozen? ⟨p, 0, none⟩ = false) :
  w'.cell? ⟨p, 0, none⟩ = some v ∧ w'.frozen? ⟨p, 0, none⟩ = false :=
 ⟨(hB.cell (p := ⟨p, 0, none⟩) h.lt.1).trans hc, (hB.frozen (p := ⟨p, 0, none⟩) h.lt.1).trans hf⟩
theorem Wr.new (w : World) (T : TypeId) : Wr w.heap.size (w.heap.size + 1) (w.alloc (.cells #[.slice none 0 0] T)) [] :=
 ⟨_, T, Nat.lt_succ_self _, by simp, World.alloc_heap_new w _, World.ownsRow_nil _ _ _ _⟩
def LowEls (p : Nat) (sv : Value) : Prop := Emp sv ∨ ∃ b off n cap, b < p ∧ sv = .slice (some ⟨b, off, none⟩) n cap
theorem Els.low {k : IntKind} {p : Nat} {w w' : World} {sv : Value} {zs : List Int} (h : Els k w sv zs) (hl : LowEls p sv) (hB : Below p w w') : Els k w' sv zs := by
 rcases h with ⟨he, hz⟩ | ⟨b, off, cap, hb, rfl, hle, hc⟩
 ·exact .inl ⟨he, hz⟩
 ·have hb2 := Nat.lt_of_lt_of_le hb hB.size
  rcases hl with he | ⟨b2, off2, n2, cap2, hlt, he⟩
  ·refine .inr ⟨b, off, cap, hb2, rfl, hle, ?_⟩
   intro j hj
   rcases he with he | ⟨x, c2, he⟩
   ·cases he
   ·simp only [Value.slice.injEq] at he
    omega
  ·cases he
   exact .inr ⟨b, off, cap, hb2, rfl, hle, fun j hj => (hB.cell (p := ⟨b, off + j, none⟩) hlt).trans (hc j hj)⟩
theorem LowEls.mono {p q : Nat} {sv : Value} (h : LowEls p sv) (hp : p ≤ q) : LowEls q sv := by
 rcases h with h | ⟨b, off, n, cap, hb, h⟩
 ·exact .inl h
 ·exact .inr ⟨b, off, n, cap, by omega, h⟩
end Go.Proofs.YtgnloodmbgdgdaaGreat
namespace Go.Proofs.YtgnloodmbgdgdaaGreat
open Go.RowKit Go.Shelf
def encs (l : List Int) : List Int := (l.map fun n => Hm.uv (Hm.zig n)).flatten
def Rd (p d : Nat) (w : World) (l : List Int) (e : Int) : Prop :=
 ∃ v T, w.heap[p]? = some (.cells #[v, .int .i64 e] T (0, 0)) ∧ ((Emp v ∧ l = []) ∨ (p ≠ d ∧ d < w.heap.size ∧ Elems .u8 d w v l))
theorem Rd.lt {p d : Nat} {w : World} {l : List Int} {e : Int} (h : Rd p d w l e) : p < w.heap.size := by
 obtain ⟨v, T, hb, _⟩ := h
 exact (Array.getElem?_eq_some_iff.1 hb).1
theorem Rd.open {p d : Nat} {w : World} {l : List Int} {e : Int} (h : Rd p d w l e) :
  ∃ a n c, w.cell? ⟨p, 0, none⟩ = some (.slice a n c) ∧ w.cell? ⟨p, 1, none⟩ = some (.int .i64 e) ∧ w.frozen? ⟨p, 0, none⟩ = false ∧ w.frozen? ⟨p, 1, none⟩ = false ∧ Hid (n = l.length) ∧ n ≤ c ∧
   Hid ((Emp (.slice a n c) ∧ l = []) ∨ (p ≠ d ∧ d < w.heap.size ∧ Elems .u8 d w (.slice a n c) l)) := by
 obtain ⟨v, T, hb, hv⟩ := h
 have hs : ∃ a n c, v = .slice a n c ∧ n = l.length ∧ n ≤ c := by
  rcases hv with ⟨rfl | ⟨x, cap, rfl⟩, rfl⟩ | ⟨_, _, ⟨he, rfl⟩ | ⟨off, cap, rfl, hl, _⟩⟩
  ·exact ⟨_, _, _, rfl, rfl, Nat.le_refl _⟩
  ·exact ⟨_, _, _, rfl, rfl, Nat.zero_le _⟩
  ·obtain ⟨a, c, rfl⟩ := he.shape
   exact ⟨_, _, _, rfl, rfl, Nat.zero_le _⟩
  ·exact ⟨_, _, _, rfl, rfl, hl⟩
 obtain ⟨a, n, c, rfl, hn, hc⟩ := hs
 exact ⟨a, n, c, by simp [World.cell?, hb], by simp [World.cell?, hb], by simp [World.frozen?, hb], by simp [World.frozen?, hb], hn, hc, hv⟩
theorem Rd.keep {p d : Nat} {w w' : World} {l : List Int} {e : Int} (h : Rd p d w l e) (hs : w.heap.size ≤ w'.heap.size) (hp : w'.heap[p]? = w.heap[p]?) (hd : d < w.heap.size → w'.heap[d]? = w.heap[d]?) : Rd p d w' l e := by
 obtain ⟨v, T, hb, hv⟩ := h
 refine ⟨v, T, hp.trans hb, ?_⟩
 rcases hv with hv | ⟨hne, hlt, hE⟩
 ·exact .inl hv
 ·exact .inr ⟨hne, by omega, hE.keep (hd hlt)⟩
theorem Rd.below {p d : Nat} {w w' : World} {l : List Int} {e : Int} (h : Rd p d w l e) (hB : Below w.heap.size w w') : Rd p d w' l e :=
 h.keep hB.size (hB.block p h.lt) fun hd => hB.block d hd
theorem two_set0 {w : World} {p : Nat} {v u x : Value} {T : TypeId} (h : w.heap[p]? = some (.cells #[v, x] T (0, 0))) : (w.setCell ⟨p, 0, none⟩ u).heap[p]? = some (.cells #[u, x] T (0, 0)) := by
 simp [World.setCell, Array.getElem?_modify, h]
theorem Rd.left {p d : Nat} {w : World} {l l' : List Int} {e : Int} {v : Value} (h : Rd p d w l e) (hv : (Emp v ∧ l' = []) ∨ (p ≠ d ∧ d < w.heap.size ∧ Elems .u8 d w v l')) : Rd p d (w.setCell ⟨p, 0, none⟩ v) l' e := by
 obtain ⟨u, T, hb, _⟩ := h
 refine ⟨v, T, two_set0 hb, ?_⟩
 rcases hv with hv | ⟨hne, hlt, hE⟩
 ·exact .inl hv
 ·exact .inr ⟨hne, by simpa [World.setCell] using hlt, hE.keep (Below.heap_setCell w _ v d (Ne.symm hne))⟩
end Go.Proofs.YtgnloodmbgdgdaaGreat
namespace Go.Proofs.YtgnloodmbgdgdaaGreat
open Go.RowKit
structure V where
 kind : Nat
 u : Nat
 n : Int
 b : List Int
 l : List Int
def V.zero (k : Nat) : V := ⟨k, 0, 0, [], []⟩
def Nums (l : List Int) : Prop := ∀ z ∈ l, (Lit.int .i64 z).wf = true
structure V.Good (x : V) : Prop where
 kind : x.kind ≤ 5
 u : x.u < 18446744073709551616
 n : -9223372036854775808 ≤ x.n ∧ x.n ≤ 9223372036854775807
 byt : Hm.Byt x.b
 bl : x.b.length ≤ 1000
 nums : Nums x.l
 ll : x.l.length ≤ 1000
 u0 : x.kind ≠ 0 → x.u = 0
 n0 : x.kind ≠ 1 → x.kind ≠ 2 → x.n = 0
 n1 : x.kind = 2 → x.n = 0 ∨ x.n = 1
 b0 : x.kind ≠ 3 → x.kind ≠ 4 → x.b = []
 l0 : x.kind ≠ 5 → x.l = []
end Go.Proofs.YtgnloodmbgdgdaaGreat
