import Derived.Test.YtgnloodmbgdgdaaGreatFB10
import Derived.Test.YtgnloodmbgdgdaaGreatFB09
namespace Go.Proofs.YtgnloodmbgdgdaaGreat
open Go.RowKit Go.Shelf
structure Fr where
 op : Int
 n : Int
 a2 : Option Addr
 n2 : Nat
 c2 : Nat
 a3 : Option Addr
 n3 : Nat
 c3 : Nat
def RFo : RowOf Fr where
 cells x := [.int .i64 x.op, .int .i64 x.n, .slice x.a2 x.n2 x.c2, .slice x.a3 x.n3 x.c3]
 k := 4
 len _ := rfl
 one x v h := by simp at h; rcases h with rfl | rfl | rfl | rfl <;> rfl
 pos := by decide
mutual
def FS (S : Nat → Prop) (w : World) : Fo → Value → Value → Prop
 | .mk _ _ is ks, c, d => (REls RIv w c is ∧ InS S c) ∧ ((Emp d ∧ ks = []) ∨ ∃ g cap, S g ∧ g < w.heap.size ∧ d = .slice (some ⟨g, 0, none⟩) ks.length cap ∧ ks.length ≤ cap ∧ FL S w ks g 0)
def FL (S : Nat → Prop) (w : World) : List Fo → Nat → Nat → Prop
 | [], _, _ => True
 | t :: ts, g, o => (∃ c d, w.cell? ⟨g, o, none⟩ = some (.int .i64 t.op) ∧ w.cell? ⟨g, o + 1, none⟩ = some (.int .i64 t.n) ∧ w.cell? ⟨g, o + 2, none⟩ = some c ∧ w.cell? ⟨g, o + 3, none⟩ = some d ∧ FS S w t c d) ∧ FL S w ts g (o + 4)
end
def FSl (S : Nat → Prop) (w : World) (d : Value) (ks : List Fo) : Prop := (Emp d ∧ ks = []) ∨ ∃ g cap, S g ∧ g < w.heap.size ∧ d = .slice (some ⟨g, 0, none⟩) ks.length cap ∧ ks.length ≤ cap ∧ FL S w ks g 0
theorem FS.parts {S : Nat → Prop} {w : World} {op n : Int} {is : List Iv} {ks : List Fo} {c d : Value} (h : FS S w (.mk op n is ks) c d) : (REls RIv w c is ∧ InS S c) ∧ FSl S w d ks := h
theorem FS.of {S : Nat → Prop} {w : World} {op n : Int} {is : List Iv} {ks : List Fo} {c d : Value} (h2 : REls RIv w c is) (l2 : InS S c) (h3 : FSl S w d ks) : FS S w (.mk op n is ks) c d := ⟨⟨h2, l2⟩, h3⟩
mutual
theorem FS.keep {S S' : Nat → Prop} {w W : World} (hk : KeepS S w W) (hs : ∀ b, b < w.heap.size → S b → S' b) : ∀ (t : Fo) {c d : Value}, FS S w t c d → FS (fun k => S' k ∧ k < W.heap.size) W t c d
 | .mk op n is ks, c, d, h => by
  obtain ⟨⟨h2, l2⟩, h3⟩ := h.parts
  have r2 : InS (fun k => S' k ∧ k < W.heap.size) c := by
   rcases h2 with ⟨he, _⟩ | ⟨b, cap, hb, rfl, _, _⟩
   ·exact .inl he
   ·rcases l2 with l2 | ⟨b2, off2, n2, cap2, hlt, he⟩
    ·exact .inl l2
    ·cases he; exact .inr ⟨b, _, _, _, ⟨hs b hb hlt, Nat.lt_of_lt_of_le hb hk.1⟩, rfl⟩
  refine FS.of (h2.keepS l2 hk) r2 ?_
  rcases h3 with h3 | ⟨g, cap, hg, hgs, e, hl, hp⟩
  ·exact .inl h3
  ·exact .inr ⟨g, cap, ⟨hs g hgs hg, Nat.lt_of_lt_of_le hgs hk.1⟩, Nat.lt_of_lt_of_le hgs hk.1, e, hl, FL.keep hk hs ks hg hgs hp⟩
theorem FL.keep {S S' : Nat → Prop} {w W : World} (hk : KeepS S w W) (hs : ∀ b, b < w.heap.size → S b → S' b) : ∀ (ts : List Fo) {g o : Nat}, S g → g < w.heap.size → FL S w ts g o → FL (fun k => S' k ∧ k < W.heap.size) W ts g o
 | [], _, _, _, _, _ => trivial
 | t :: ts, g, o, hg, hgs, h => by
  obtain ⟨⟨c, d, h0, h1, h2, h3, h4⟩, h5⟩ := h
  have e := fun j => cell_of_block (hk.2 g hg hgs) j
  exact ⟨⟨c, d, (e _).trans h0, (e _).trans h1, (e _).trans h2, (e _).trans h3, FS.keep hk hs t h4⟩, FL.keep hk hs ts hg hgs h5⟩
end
mutual
theorem FS.fat {S : Nat → Prop} {w : World} {B : Nat} (hs : ∀ b, S b → b < B) : ∀ (t : Fo) {c d : Value}, FS S w t c d → FAt B w t c d
 | .mk op n is ks, c, d, h => by
  obtain ⟨⟨h2, l2⟩, h3⟩ := h.parts
  refine FAt.of h2 (l2.low hs) ?_
  rcases h3 with h3 | ⟨g, cap, hg, hgs, e, hl, hp⟩
  ·exact .inl h3
  ·exact .inr ⟨g, cap, hs g hg, hgs, e, hl, FL.fat hs ks hp⟩
theorem FL.fat {S : Nat → Prop} {w : World} {B : Nat} (hs : ∀ b, S b → b < B) : ∀ (ts : List Fo) {g o : Nat}, FL S w ts g o → FRow B w ts g o
 | [], _, _, _ => trivial
 | t :: ts, g, o, h => by
  obtain ⟨⟨c, d, h0, h1, h2, h3, h4⟩, h5⟩ := h
  exact ⟨⟨c, d, h0, h1, h2, h3, FS.fat hs t h4⟩, FL.fat hs ts h5⟩
end
theorem FL.get {S : Nat → Prop} {w : World} : ∀ (ts : List Fo) {g o : Nat}, FL S w ts g o → ∀ (j : Nat) (t : Fo), ts[j]? = some t → ∃ c d, w.cell? ⟨g, o + j * 4, none⟩ = some (.int .i64 t.op) ∧ w.cell? ⟨g, o + j * 4 + 1, none⟩ = some (.int .i64 t.n) ∧ w.cell? ⟨g, o + j * 4 + 2, none⟩ = some c ∧ w.cell? ⟨g, o + j * 4 + 3, none⟩ = some d ∧ FS S w t c d
 | [], _, _, _, j, t, hj => by simp at hj
 | u :: us, g, o, h, 0, t, hj => by
  simp at hj
  subst hj
  obtain ⟨⟨c, d, h0, h1, h2, h3, h4⟩, _⟩ := h
  exact ⟨c, d, by simpa using h0, by simpa using h1, by simpa using h2, by simpa using h3, h4⟩
 | u :: us, g, o, h, j + 1, t, hj => by
  rw [List.getElem?_cons_succ] at hj
  have := FL.get us h.2 j t hj
  rw [show o + 4 + j * 4 = o + (j + 1) * 4 by omega] at this
  exact this
theorem FL.of_get {S : Nat → Prop} {w : World} : ∀ (ts : List Fo) {g o : Nat}, (∀ (j : Nat) (t : Fo), ts[j]? = some t → ∃ c d, w.cell? ⟨g, o + j * 4, none⟩ = some (.int .i64 t.op) ∧ w.cell? ⟨g, o + j * 4 + 1, none⟩ = some (.int .i64 t.n) ∧ w.cell? ⟨g, o + j * 4 + 2, none⟩ = some c ∧ w.cell? ⟨g, o + j * 4 + 3, none⟩ = some d ∧ FS S w t c d) → FL S w ts g o
 | [], _, _, _ => trivial
 | u :: us, g, o, h => by
  refine ⟨?_, FL.of_get us fun j t hj => ?_⟩
  ·obtain ⟨c, d, h0, h1, h2, h3, h4⟩ := h 0 u rfl
   exact ⟨c, d, by simpa using h0, by simpa using h1, by simpa using h2, by simpa using h3, h4⟩
  ·have := h (j + 1) t (by rw [List.getElem?_cons_succ]; exact hj)
   rw [show o + (j + 1) * 4 = o + 4 + j * 4 by omega] at this
   exact this
theorem FSl.shape {S : Nat → Prop} {w : World} {d : Value} {ks : List Fo} (h : FSl S w d ks) : ∃ a cap, d = .slice a ks.length cap := by
 rcases h with ⟨he, rfl⟩ | ⟨g, cap, _, _, he, _⟩
 ·exact he.shape
 ·exact ⟨_, _, he⟩
def FSr (S : Nat → Prop) (w : World) (t : Fo) (r : Fr) : Prop := t.op = r.op ∧ t.n = r.n ∧ FS S w t (.slice r.a2 r.n2 r.c2) (.slice r.a3 r.n3 r.c3)
def Fr.v (r : Fr) : Value := .agg #[.int .i64 r.op, .int .i64 r.n, .slice r.a2 r.n2 r.c2, .slice r.a3 r.n3 r.c3]
theorem FS.shape {S : Nat → Prop} {w : World} {t : Fo} {c d : Value} (h : FS S w t c d) : ∃ r : Fr, c = .slice r.a2 r.n2 r.c2 ∧ d = .slice r.a3 r.n3 r.c3 ∧ r.n2 = t.is.length ∧ r.n3 = t.ks.length ∧ FSr S w t r := by
 obtain ⟨op, n, is, ks⟩ := t
 obtain ⟨⟨h2, l2⟩, h3⟩ := h.parts
 obtain ⟨a2, c2, rfl⟩ := h2.shape
 obtain ⟨a3, c3, rfl⟩ := FSl.shape h3
 exact ⟨⟨op, n, a2, _, c2, a3, _, c3⟩, rfl, rfl, rfl, rfl, rfl, rfl, h⟩
theorem FSr.lens {S : Nat → Prop} {w : World} {t : Fo} {r : Fr} (h : FSr S w t r) : r.n2 = t.is.length ∧ r.n3 = t.ks.length := by
 obtain ⟨r', e1, e2, e3, e4, -⟩ := h.2.2.shape
 simp only [Value.slice.injEq] at e1 e2
 exact ⟨e1.2.1.trans e3, e2.2.1.trans e4⟩
theorem FSr.keep {S S' : Nat → Prop} {w W : World} {t : Fo} {r : Fr} (h : FSr S w t r) (hk : KeepS S w W) (hs : ∀ b, b < w.heap.size → S b → S' b) : FSr (fun k => S' k ∧ k < W.heap.size) W t r := ⟨h.1, h.2.1, FS.keep hk hs t h.2.2⟩
theorem FSl.rows {S : Nat → Prop} {w : World} {d : Value} {ks : List Fo} (h : FSl S w d ks) : ∃ rs : List Fr, REls RFo w d rs ∧ InS S d ∧ rs.length = ks.length ∧ ∀ (j : Nat) (t : Fo), ks[j]? = some t → ∃ r, rs[j]? = some r ∧ FSr S w t r := by
 rcases h with ⟨he, rfl⟩ | ⟨g, cap, hg, hgs, rfl, hl, hp⟩
 ·exact ⟨[], .inl ⟨he, rfl⟩, .inl he, rfl, fun j t h => by simp at h⟩
 ·have key : ∀ j : Nat, j < ks.length → ∃ r : Fr, w.cell? ⟨g, j * 4, none⟩ = some (.int .i64 r.op) ∧ w.cell? ⟨g, j * 4 + 1, none⟩ = some (.int .i64 r.n) ∧ w.cell? ⟨g, j * 4 + 2, none⟩ = some (.slice r.a2 r.n2 r.c2) ∧ w.cell? ⟨g, j * 4 + 3, none⟩ = some (.slice r.a3 r.n3 r.c3) ∧ ∀ t, ks[j]? = some t → FSr S w t r := fun j hj => by
   obtain ⟨c, d, q0, q1, q2, q3, hT⟩ := FL.get ks hp j ks[j] (List.getElem?_eq_getElem hj)
   rw [Nat.zero_add] at q0 q1 q2 q3
   obtain ⟨r, rfl, rfl, -, -, hr⟩ := hT.shape
   exact ⟨r, by rw [← hr.1]; exact q0, by rw [← hr.2.1]; exact q1, q2, q3, fun t ht => by rw [List.getElem?_eq_getElem hj] at ht; cases ht; exact hr⟩
  obtain ⟨f, hf⟩ : ∃ f : Nat → Fr, ∀ j : Nat, j < ks.length → w.cell? ⟨g, j * 4, none⟩ = some (.int .i64 (f j).op) ∧ w.cell? ⟨g, j * 4 + 1, none⟩ = some (.int .i64 (f j).n) ∧ w.cell? ⟨g, j * 4 + 2, none⟩ = some (.slice (f j).a2 (f j).n2 (f j).c2) ∧ w.cell? ⟨g, j * 4 + 3, none⟩ = some (.slice (f j).a3 (f j).n3 (f j).c3) ∧ ∀ t, ks[j]? = some t → FSr S w t (f j) :=
   ⟨fun j => if hj : j < ks.length then Classical.choose (key j hj) else ⟨0, 0, none, 0, 0, none, 0, 0⟩, fun j hj => by simp only [dif_pos hj]; exact Classical.choose_spec (key j hj)⟩
  refine ⟨(List.range ks.length).map f, .inr ⟨g, cap, hgs, by simp, by simpa using hl, fun j r hr i v hv => ?_⟩, .inr ⟨g, 0, _, cap, hg, rfl⟩, by simp, fun j t ht => ?_⟩
  ·have hj : j < ks.length := by have := (List.getElem?_eq_some_iff.1 hr).1; simpa using this
   rw [List.getElem?_map, List.getElem?_range hj] at hr
   simp only [Option.map_some, Option.some.injEq] at hr
   subst hr
   obtain ⟨q0, q1, q2, q3, -⟩ := hf j hj
   show w.cell? ⟨g, j * 4 + i, none⟩ = _
   match i with
   | 0 => cases hv; exact q0
   | 1 => cases hv; exact q1
   | 2 => cases hv; exact q2
   | 3 => cases hv; exact q3
   | i + 4 => simp [RFo] at hv
  ·have hj := (List.getElem?_eq_some_iff.1 ht).1
   exact ⟨f j, by rw [List.getElem?_map, List.getElem?_range hj]; rfl, (hf j hj).2.2.2.2 t ht⟩
theorem FSl.of {S : Nat → Prop} {w : World} {d : Value} {rs : List Fr} {ks : List Fo} (h : REls RFo w d rs) (hS : InS S d) (hl : rs.length = ks.length) (hT : ∀ (j : Nat) (r : Fr) (t : Fo), rs[j]? = some r → ks[j]? = some t → FSr S w t r) : FSl S w d ks := by
 rcases h with ⟨he, rfl⟩ | ⟨g, cap, hgs, rfl, hle, hc⟩
 ·exact .inl ⟨he, List.eq_nil_of_length_eq_zero (by simpa using hl.symm)⟩
 ·by_cases h0 : rs.length = 0
  ·exact .inl ⟨by rw [h0]; exact .inr ⟨_, cap, rfl⟩, List.eq_nil_of_length_eq_zero (by omega)⟩
  ·rcases hS with he | ⟨b, off, n, c2, hb, he⟩
   ·rcases he with he | ⟨x, c2, he⟩
    ·cases he
    ·simp only [Value.slice.injEq] at he; omega
   ·cases he
    refine .inr ⟨g, cap, hb, hgs, by rw [hl], by omega, FL.of_get ks fun j t ht => ?_⟩
    have hj := (List.getElem?_eq_some_iff.1 ht).1
    have hr : rs[j]? = some rs[j] := List.getElem?_eq_getElem (by omega)
    have q := hc j _ hr
    have ht2 := hT j _ t hr ht
    rw [Nat.zero_add]
    exact ⟨_, _, by rw [ht2.1]; exact q 0 _ rfl, by rw [ht2.2.1]; exact q 1 _ rfl, q 2 _ rfl, q 3 _ rfl, ht2.2.2⟩
def FreeF (S : Nat → Prop) (N : Nat) (vi vk : Value) (k : Nat) : Prop := S k ∧ k ≠ N ∧ vi.ownBlock ≠ some k ∧ vk.ownBlock ≠ some k
def LieF (S : Nat → Prop) (w : World) (rs : List Fr) (ks : List Fo) : Prop := rs.length = ks.length ∧ ∀ (j : Nat) (r : Fr) (t : Fo), rs[j]? = some r → ks[j]? = some t → FSr (fun k => S k ∧ k < w.heap.size) w t r
theorem LieF.keep {S S' : Nat → Prop} {w W : World} {rs : List Fr} {ks : List Fo} (h : LieF S w rs ks) (hk : KeepS S w W) (hs : ∀ b, b < w.heap.size → S b → S' b) : LieF S' W rs ks :=
 ⟨h.1, fun j r t hr ht => FSr.keep (S := fun k => S k ∧ k < w.heap.size) (S' := S') (h.2 j r t hr ht) ⟨hk.1, fun b hb hl => hk.2 b hb.1 hl⟩ (fun b hl hb => hs b hl hb.1)⟩
theorem LieF.nil (S : Nat → Prop) (w : World) : LieF S w [] [] := ⟨rfl, fun j r t h => by simp at h⟩
theorem LieF.snoc {S : Nat → Prop} {w : World} {rs : List Fr} {ks : List Fo} (h : LieF S w rs ks) {r : Fr} {t : Fo} (hT : FSr (fun k => S k ∧ k < w.heap.size) w t r) : LieF S w (rs ++ [r]) (ks ++ [t]) := by
 refine ⟨by simp [h.1], fun j r' t' hr ht => ?_⟩
 by_cases hj : j < ks.length
 ·rw [List.getElem?_append_left (by rw [h.1]; exact hj)] at hr
  rw [List.getElem?_append_left hj] at ht
  exact h.2 j r' t' hr ht
 ·rw [List.getElem?_append_right (by rw [h.1]; omega)] at hr
  rw [List.getElem?_append_right (by omega)] at ht
  have h1 := (List.getElem?_eq_some_iff.1 ht).1
  have e : j - ks.length = 0 := by simpa using h1
  rw [h.1, e] at hr
  rw [e] at ht
  cases hr
  cases ht
  exact hT
theorem LieF.app {S : Nat → Prop} {w : World} {rs rs2 : List Fr} {ks ks2 : List Fo} (h : LieF S w rs ks) (h2 : LieF S w rs2 ks2) : LieF S w (rs ++ rs2) (ks ++ ks2) := by
 refine ⟨by simp [h.1, h2.1], fun j r t hr ht => ?_⟩
 by_cases hj : j < ks.length
 ·rw [List.getElem?_append_left (by rw [h.1]; exact hj)] at hr
  rw [List.getElem?_append_left hj] at ht
  exact h.2 j r t hr ht
 ·rw [List.getElem?_append_right (by rw [h.1]; omega), h.1] at hr
  rw [List.getElem?_append_right (by omega)] at ht
  exact h2.2 _ r t hr ht
theorem LieF.set {S : Nat → Prop} {w : World} {rs : List Fr} {ks : List Fo} (h : LieF S w rs ks) {r : Fr} {t : Fo} (hT : FSr (fun k => S k ∧ k < w.heap.size) w t r) (j : Nat) : LieF S w (rs.set j r) (ks.set j t) := by
 refine ⟨by simp [h.1], fun i r' t' hr ht => ?_⟩
 rw [List.getElem?_set] at hr ht
 by_cases hij : j = i
 ·subst hij
  by_cases hl : j < rs.length
  ·rw [if_pos rfl, if_pos hl] at hr
   rw [if_pos rfl, if_pos (by rw [← h.1]; exact hl)] at ht
   cases hr
   cases ht
   exact hT
  ·rw [if_pos rfl, if_neg hl] at hr
   cases hr
 ·rw [if_neg hij] at hr ht
  exact h.2 i r' t' hr ht
structure OF (S : Nat → Prop) (B N : Nat) (w : World) (op n : Int) (vi vk : Value) (is : List Iv) (rs : List Fr) (ks : List Fo) : Prop where
 box : BoxL N [.int .i64 op, .int .i64 n, vi, vk] w
 hB : B ≤ N
 oi : ROwn RIv 112 B w vi is
 ok : ROwn RFo 29 B w vk rs
 lie : LieF (FreeF S N vi vk) w rs ks
 ni : vi.ownBlock ≠ some N
 nk : vk.ownBlock ≠ some N
 ik : ∀ g, vi.ownBlock = some g → vk.ownBlock ≠ some g
section
variable {S : Nat → Prop} {B N : Nat} {w w' : World} {op n : Int} {vi vk : Value} {is : List Iv} {rs : List Fr} {ks : List Fo}
theorem OF.new (S : Nat → Prop) {B : Nat} (w : World) (T : TypeId) (op n : Int) (hB : B ≤ w.heap.size) : OF S B w.heap.size (w.alloc (.cells #[.int .i64 op, .int .i64 n, .slice none 0 0, .slice none 0 0] T)) op n (.slice none 0 0) (.slice none 0 0) [] [] [] :=
 ⟨BoxL.made w _ T, hB, ROwn.nil _ _ _ _, ROwn.nil _ _ _ _, LieF.nil _ _, by simp [Value.ownBlock], by simp [Value.ownBlock], by simp [Value.ownBlock]⟩
theorem OF.frame (h : OF S B N w op n vi vk is rs ks) (hB : Since w w') : OF S B N w' op n vi vk is rs ks :=
 { h with box := h.box.keep hB, oi := h.oi.below hB, ok := h.ok.below hB, lie := h.lie.keep ⟨hB.size, fun b _ hl => hB.block b hl⟩ fun _ _ h => h }
theorem BoxL.far {vs : List Value} (h : BoxL N vs w) {v v' : Value} (hn : v.ownBlock ≠ some N) (hp : PF v w w' v') : BoxL N vs w' :=
 ⟨Nat.lt_of_lt_of_le h.1 hp.1.1, fun i u hu => ⟨(cell_of_block (hp.1.2 N hn h.1) i).trans (h.2 i u hu).1, by
  have e := hp.1.2 N hn h.1
  have := (h.2 i u hu).2
  unfold World.frozen? at this ⊢
  rw [e]
  exact this⟩⟩
theorem OF.thereK (h : OF S B N w op n vi vk is rs ks) {v' : Value} (hp : PF vk w w' v') : BoxL N [.int .i64 op, .int .i64 n, vi, vk] w' := h.box.far h.nk hp
theorem OF.setK (h : OF S B N w op n vi vk is rs ks) {v' : Value} {rs' : List Fr} {ks' : List Fo} (hp : PF vk w w' v') (hO : ROwn RFo 29 B w' v' rs') (hL : LieF (FreeF S N vi vk) w rs' ks') : OF S B N (w'.setCell ⟨N, 3, none⟩ v') op n vi v' is rs' ks' := by
 have hN := h.box.1
 have hk := PF.keep (N := N) hp 3 v'
 have fN := hp.far hN h.nk
 have ki := fun g (e : vi.ownBlock = some g) (hl : g < w.heap.size) => hk.2 g ⟨fun e2 => h.ik g e e2, fun e2 => h.ni (e2 ▸ e)⟩ hl
 refine ⟨(h.thereK hp).set1 3 v' (by simp), h.hB, h.oi.keepS ki, hO.keepS fun g e _ => Below.heap_setCell _ _ _ _ (fun (e2 : g = N) => fN (e2 ▸ e)), ?_, h.ni, fN, fun g e1 e2 => ?_⟩
 ·exact hL.keep ⟨hk.1, fun b hb hl => hk.2 b ⟨hb.2.2.2, hb.2.1⟩ hl⟩ fun b hl hb => ⟨hb.1, hb.2.1, hb.2.2.1, hp.far hl hb.2.2.2⟩
 ·exact hp.far (h.oi.lt g e1).2 (fun e => h.ik g e1 e) e2
theorem OF.part (h : OF S B N w op n vi vk is rs ks) {S0 : Nat → Prop} (hS : ∀ k, k < w'.heap.size → S0 k → S k ∧ (k < B ∨ w.heap.size ≤ k)) {t : Fo} {r : Fr} (hT : FSr S0 w' t r) : FSr (fun k => FreeF S N vi vk k ∧ k < w'.heap.size) w' t r := by
 refine FSr.keep (S' := FreeF S N vi vk) hT ⟨Nat.le_refl _, fun _ _ _ => rfl⟩ (fun k hl hk => ?_)
 have f : ∀ g, B ≤ g ∧ g < w.heap.size → k ≠ g := fun g hg => by have := (hS k hl hk).2; omega
 exact ⟨(hS k hl hk).1, f N ⟨h.hB, h.box.1⟩, fun e => f k (h.oi.lt k e) rfl, fun e => f k (h.ok.lt k e) rfl⟩
theorem OF.done (h : OF S B N w op n vi vk is rs ks) (hS : ∀ k, B ≤ k → S k) : FS (fun k => S k ∧ k < w.heap.size) w (.mk op n is ks) vi vk := by
 refine FS.of h.oi.els (h.oi.ins.mono fun k hk => ⟨hS k hk.1, hk.2⟩) (FSl.of h.ok.els (h.ok.ins.mono fun k hk => ⟨hS k hk.1, hk.2⟩) h.lie.1 fun j r t hr ht => ?_)
 exact FSr.keep (S' := S) (h.lie.2 j r t hr ht) ⟨Nat.le_refl _, fun _ _ _ => rfl⟩ (fun k _ hk => hk.1.1)
end
end Go.Proofs.YtgnloodmbgdgdaaGreat
namespace Go.Proofs.YtgnloodmbgdgdaaGreat
open Go.RowKit Go.Shelf
def ProperK (m : Nat) : Prop := ∀ (u : Th), u.size ≤ m → u.wf → ∀ (x y z : Value) (W : World), TAt W.heap.size W u x y z → Calls Tryz.prog 102 #[.agg #[x, y, z]] W fun e w' => e = .returned (.bool u.goodB) ∧ Below W.heap.size W w'
theorem BoxL.keep2 {W w1 : World} {N B : Nat} {vs : List Value} (h : BoxL N vs W) (hN : N < B) (hb : Below B W w1) : BoxL N vs w1 :=
 ⟨Nat.lt_of_lt_of_le h.1 hb.size, fun i v hv => ⟨(hb.cell (p := ⟨N, i, none⟩) hN).trans (h.2 i v hv).1, (hb.frozen (p := ⟨N, i, none⟩) hN).trans (h.2 i v hv).2⟩⟩
set_option maxHeartbeats 1000000 in
set_option maxRecDepth 100000 in
theorem prop1_any (m : Nat) (KP : Hid (ProperK m)) (u : Th) (hu : u.size ≤ m) (hw : u.wf) (x y z : Value) (W : World) (h : TAt W.heap.size W u x y z) :
  Calls Tryz.prog 157 #[.agg #[x, y, z]] W fun e w' => e = .returned (.bool (!u.goodB)) ∧ Below W.heap.size W w' := by
 obtain ⟨a1, c1, a2, c2, a3, c3, rfl, rfl, rfl, -⟩ := h.shape
 have K := Lib.hid fun o => KP.out u hu hw _ _ _ (W.alloc o) (h.under o)
 generalize u.goodB = G at *
 generalize u.cs.length = n1 at *
 generalize u.vs.length = n2 at *
 generalize u.ps.length = n3 at *
 clear h KP hu hw
 go_enter Tryz.func157, Tryz.ntmps157
 go_wp2_with fail
 refine (K.out _).mono ?_
 rintro e w2 ⟨rfl, hr⟩
 have HB := Lib.hid (below_new hr)
 clear hr
 go_wp2
 go_ret
 exact ⟨rfl, HB.out⟩
theorem sizes_le {ts : List Th} {m : Nat} {t : Th} (h : Th.sizes ts ≤ m) (ht : t ∈ ts) : t.size ≤ m := Nat.le_trans (Th.sizes_mem ht) h
set_option maxHeartbeats 4000000 in
set_option maxRecDepth 100000 in
theorem idxp_any (m : Nat) (hm : m ≤ 1000000) (KP : Hid (ProperK m)) (sv : Value) (ts : List Th) (w : World) (h : Ps w.heap.size w sv ts) (hs : Th.sizes ts ≤ m) (hw : ∀ t ∈ ts, t.wf) :
  Calls Tryz.prog 159 #[sv, .func (.func 157) #[] #[]] w (IdxT ts Th.good w) := by
 obtain ⟨a, cap, rfl⟩ := h.shape
 have HP := Lib.hid h
 have HS := Lib.hid hs
 have HW := Lib.hid hw
 have hl := Th.sizes_len ts
 have K1 := Lib.hid fun (u : Th) (hu : u ∈ ts) x y z W (hh : TAt W.heap.size W u x y z) => prop1_any m KP u (sizes_le hs hu) (hw u hu) x y z W hh
 generalize hn : ts.length = n at *
 have HN := Lib.hid hn
 have hn6 : n ≤ 1000000 := by omega
 clear h hs hw hn hl KP
 go_enter Tryz.func159, Tryz.ntmps159
 go_wp2
 go_loopw [8] (fun x wr => ∃ k : Nat, k ≤ n ∧ x = .int .i64 k ∧ Hid (∀ t ∈ ts.take k, t.good) ∧ Hid (Below w.heap.size w wr)) (fun x _ => n - (intOf x).toNat)
 case atStart => exact ⟨0, by omega, rfl, fun t ht => by simp at ht, Below.refl _ _⟩
 case round =>
  obtain ⟨k, hk, rfl, hG, hB⟩ := hrel
  by_cases hlt : k < n
  ·have i1 : (k : Int) < n := by omega
   obtain ⟨g, u, rfl, hgB, hgs, hcap, hu, x, y, z, q0, q1, q2, hT⟩ := (HP.out.low hB.out).get hlt
   have hmem := List.mem_of_getElem? hu
   have K := Lib.hid (K1.out u hmem x y z wr (hT.mono hB.out.size))
   have HGT : Hid (u.goodB = true → ∀ t ∈ ts.take (k + 1), t.good) := Lib.hid fun hg t ht => by
    rw [List.take_add_one, hu, List.mem_append] at ht
    rcases ht with ht | ht
    ·exact hG.out t ht
    ·simp at ht
     subst ht
     exact Th.goodB_iff.1 hg
   have HGF : Hid (u.goodB = false → ¬ ∀ t ∈ ts, t.good) := Lib.hid fun hg hall => by
    have := Th.goodB_t (hall u hmem)
    rw [hg] at this
    cases this
   generalize u.goodB = G at *
   clear hT hu hmem
   go_wp2_with fail
   refine (K.out).mono ?_
   rintro e w1 ⟨rfl, hr⟩
   have H1 := Lib.hid (hB.out.trans (hr.mono hB.out.size))
   clear hr hB
   cases G
   case true =>
    have HA := Lib.hid (HGT.out rfl)
    clear HGT HGF hG
    go_wp2
    go_roundw
    case rel => exact ⟨k + 1, by omega, by go_num, HA, H1⟩
    case measure => simp [intOf]; omega
   case false =>
    have HA := Lib.hid (HGF.out rfl)
    clear HGT HGF hG
    go_wp2
    go_ret
    exact ⟨k, rfl, .inr ⟨HA.out, by omega⟩, H1.out⟩
  ·have i1 : ¬ (k : Int) < n := by omega
   have HA : Hid (∀ t ∈ ts, t.good) := Lib.hid (by have := hG.out; rwa [List.take_of_length_le (by rw [HN.out]; omega)] at this)
   clear hG
   go_wp2
   go_ret
   exact ⟨-1, rfl, .inl ⟨HA.out, rfl⟩, hB.out⟩
open Classical in
set_option maxHeartbeats 2000000 in
set_option maxRecDepth 100000 in
theorem conp_any (m : Nat) (hm : m ≤ 1000000) (KP : Hid (ProperK m)) (sv : Value) (ts : List Th) (w : World) (h : Ps w.heap.size w sv ts) (hs : Th.sizes ts ≤ m) (hw : ∀ t ∈ ts, t.wf) :
  Calls Tryz.prog 106 #[sv, .func (.func 157) #[] #[]] w fun e w' => e = .returned (.bool (!decide (∀ t ∈ ts, t.good))) ∧ Below w.heap.size w w' := by
 have k1 := Lib.hid (idxp_any m hm KP sv ts w h hs hw)
 obtain ⟨a, cap, rfl⟩ := h.shape
 generalize ts.length = n at *
 clear h hw hs KP
 go_enter Tryz.func106, Tryz.ntmps106
 go_wp2_with fail
 refine (k1.out).mono ?_
 rintro e w1 ⟨v, rfl, hv, hB⟩
 have HV : Hid (decide (0 ≤ v) = !decide (∀ t ∈ ts, t.good)) := Lib.hid (by
  rcases hv with ⟨h1, rfl⟩ | ⟨h1, h2⟩
  ·rw [decide_eq_true h1]; rfl
  ·rw [decide_eq_false h1, decide_eq_true h2]; rfl)
 have HB := Lib.hid hB
 clear hv hB
 go_wp2
 go_ret
 exact ⟨ret_bool HV.out, HB.out⟩
open Classical in
set_option maxHeartbeats 8000000 in
set_option maxRecDepth 100000 in
theorem proper_step (m : Nat) (hm : m ≤ 1000000) (KP : Hid (ProperK m)) : ProperK (m + 1) := by
 intro t ht hwf a b c w h
 obtain ⟨a1, c1, a2, c2, a3, c3, rfl, rfl, rfl, hC, hV, hP, -, -⟩ := h.shape
 have HB0 := Lib.hid ((Below.refl w.heap.size w).alloc (Nat.le_refl _) (.cells #[.slice a1 t.cs.length c1, .slice a2 t.vs.length c2, .slice a3 t.ps.length c3] 41))
 have XA := Lib.hid (BoxL.made w #[.slice a1 t.cs.length c1, .slice a2 t.vs.length c2, .slice a3 t.ps.length c3] 41)
 have hge := t.good_eq
 obtain ⟨⟨⟨-, hcl⟩, hwv, hvl⟩, hwp⟩ := t.wf_eq.1 hwf
 have hsm : Th.sizes t.ps ≤ m := by have := t.size_eq; omega
 have KC := Lib.hid fun W (hB : Below w.heap.size w W) => inc_any a1 t.cs.length c1 t.cs 64 W (hC.below hB) (by omega)
 have KD := Lib.hid fun W (hB : Below w.heap.size w W) => conp_any m hm KP _ t.ps W (hP.below hB) hsm hwp
 have KR := Lib.hid fun (v : Va) (hv : v ∈ t.vs) W => rvalid_any v.n v.d W (hwv v hv).2.1 (hwv v hv).2.2
 have KI := Lib.hid fun (ao : Option Addr) (no co : Nat) (L : List Int) W (hE : Els .i64 W (.slice ao no co) L) (hl : no ≤ 1000000000) => inc_any ao no co L 32 W hE hl
 have HV := Lib.hid hV
 have HI0 := Lib.hid Tryz.infoI64
 have hg1 : (¬ Inc 64 t.cs → t.goodB = false) := fun hn => Th.goodB_f fun hg => hn (hge.1 hg).1.1
 have hg2 : (∀ v ∈ t.vs, ¬ v.ok → t.goodB = false) := fun v hv hn => Th.goodB_f fun hg => hn ((hge.1 hg).1.2.1 v hv)
 have hg3 : (¬ Inc 32 (t.vs.map Va.t) → t.goodB = false) := fun hn => Th.goodB_f fun hg => hn (hge.1 hg).1.2.2
 have hg4 : Inc 64 t.cs → (∀ v ∈ t.vs, v.ok) → Inc 32 (t.vs.map Va.t) → t.goodB = decide (∀ u ∈ t.ps, u.good) := fun h1 h2 h3 => by
  by_cases hall : ∀ u ∈ t.ps, u.good
  ·rw [decide_eq_true hall]; exact Th.goodB_t (hge.2 ⟨⟨h1, h2, h3⟩, hall⟩)
  ·rw [decide_eq_false hall]; exact Th.goodB_f fun hg => hall (hge.1 hg).2
 have HG1 := Lib.hid hg1
 have HG2 := Lib.hid hg2
 have HG3 := Lib.hid hg3
 have HG4 := Lib.hid hg4
 generalize t.goodB = T at *
 generalize t.ps = ps at *
 generalize t.cs = cs at *
 generalize t.vs = vs at *
 generalize decide (∀ u ∈ ps, u.good) = D at *
 generalize cs.length = n1 at *
 generalize ps.length = n3 at *
 generalize hn : vs.length = n at *
 have HN := Lib.hid hn
 have hn6 : n ≤ 1000000 := by omega
 clear h hC hV hP hge hwv hwp hwf hsm hvl hg1 hg2 hg3 hg4 hn KP
 go_enter Tryz.func102, Tryz.ntmps102
 go_wp2
 go_loopw [3, 9] (fun s x wr => ∃ k : Nat, ∃ ao no co, k ≤ n ∧ x = .int .i64 k ∧ s = .slice ao no co ∧ Hid (∀ v ∈ vs.take k, v.ok) ∧ Hid (Own .i64 3 (w.heap.size + 1) wr (.slice ao no co) ((vs.take k).map Va.t)) ∧ Hid (BoxL w.heap.size [.slice a1 n1 c1, .slice a2 n c2, .slice a3 n3 c3] wr) ∧ Hid (Below w.heap.size w wr)) (fun _ x _ => n - (intOf x).toNat)
 case atStart => exact ⟨0, none, 0, 0, by omega, rfl, rfl, fun v hv => by simp at hv, World.ownsRow_nil _ _ _ _, XA, HB0⟩
 case round =>
  obtain ⟨k, ao, no, co, hk, rfl, rfl, hG, hO, hX, hB⟩ := hrel
  clear XA
  by_cases hlt : k < n
  ·have i1 : (k : Int) < n := by omega
   obtain ⟨v, hv⟩ : ∃ v, vs[k]? = some v := ⟨vs[k]'(by rw [HN.out]; exact hlt), List.getElem?_eq_getElem _⟩
   obtain ⟨g, rfl, hgs, hcap, -⟩ := HV.out.get hlt
   obtain ⟨q0, q1, q2, -⟩ := va_at (HV.out.below hB.out) hv
   have hmem := List.mem_of_getElem? hv
   have KRv := Lib.hid (KR.out v hmem)
   have HM : Hid (v.ok → (∀ u ∈ vs.take (k + 1), u.ok)) := Lib.hid fun hok u hu => by
    rw [List.take_add_one, hv, List.mem_append] at hu
    rcases hu with hu | hu
    ·exact hG.out u hu
    ·simp at hu
     subst hu
     exact hok
   have HG2v := Lib.hid (HG2.out v hmem)
   have HSN := Lib.hid (map_snoc hv)
   have hlen : ((vs.take k).map Va.t).length ≤ 1000000000000 := by
    rw [List.length_map, List.length_take]
    have := HN.out
    omega
   clear hv hmem
   obtain ⟨vt, vn, vd⟩ := v
   simp only at *
   unfold rv at KRv
   have XV := Lib.hid (BoxL.made wr #[.int .i64 vt, .int .i64 vn, .int .i64 vd] 93)
   by_cases ho : Qm.Ok vn vd
   ·rw [Qm.validI_ok.2 ho] at KRv
    go_wp2_with fail
    refine (KRv.out _).mono ?_
    rintro e w2 ⟨rfl, hr⟩
    have XV2 := Lib.hid (XV.out.keep hr)
    have HB2 := Lib.hid (hB.out.trans ((below_new hr).mono hB.out.size))
    have HX2 := Lib.hid (hX.out.keep (below_new hr))
    have HO2 := Lib.hid (hO.out.below (below_new hr))
    clear hr XV hX hO hB
    obtain ⟨s0, s1, s2, -, -, -, s3⟩ := XV2.out.open3
    by_cases hd : vd ≤ 65536
    ·have hd2 : ¬ vd > 65536 := by omega
     have HA := Lib.hid (HM.out ⟨ho, hd⟩)
     clear HM HG2v hG ho
     go_wp2_with (at_builtin; refine push_own rfl _ _ 22 rfl .i64 3 8 Tryz.underlying22 HI0.out (by decide) (w.heap.size + 1) (.slice ao no co) ((vs.take k).map Va.t) _ _ rfl rfl HO2.out HX2.out.1 hlen ?_; intro a4 n4 c4 w4 hn4 hO4 hB4)
     have HO4 : Hid (Own .i64 3 (w.heap.size + 1) w4 (.slice a4 n4 c4) ((vs.take (k + 1)).map Va.t)) := Lib.hid (by rw [HSN.out]; exact hO4.out)
     have HX4 : Hid (BoxL w.heap.size [.slice a1 n1 c1, .slice (some ⟨g, 0, none⟩) n c2, .slice a3 n3 c3] w4) := Lib.hid (HX2.out.keep2 (Nat.lt_succ_self _) hB4.out)
     have HB4 := Lib.hid (HB2.out.trans (hB4.out.mono (Nat.le_succ _)))
     clear hO4 hB4 hn4
     go_wp2
     go_roundw
     case rel => exact ⟨k + 1, a4, n4, c4, by omega, by go_num, rfl, HA, HO4, HX4, HB4⟩
     case measure => simp [intOf]; omega
    ·have hd2 : vd > 65536 := by omega
     have HT := Lib.hid (HG2v.out fun hok => hd hok.2)
     clear HG2v HM hG
     go_wp2
     go_ret
     exact ⟨ret_bool HT.out.symm, HB2.out⟩
   ·have hz : Qm.validI vn vd = 1 := (Qm.validI_two vn vd).resolve_left fun h => ho (Qm.validI_ok.1 h)
    rw [hz] at KRv
    have HT := Lib.hid (HG2v.out fun hok => ho hok.1)
    clear HG2v HM hG hz
    go_wp2_with fail
    refine (KRv.out _).mono ?_
    rintro e w2 ⟨rfl, hr⟩
    have HB2 := Lib.hid (hB.out.trans ((below_new hr).mono hB.out.size))
    clear hr
    go_wp2
    go_ret
    exact ⟨ret_bool HT.out.symm, HB2.out⟩
  ·have i1 : ¬ (k : Int) < n := by omega
   have hall := hG.out
   have hO5 := hO.out
   rw [List.take_of_length_le (by rw [HN.out]; omega)] at hall hO5
   have HALL := Lib.hid hall
   have hno := hO5.els.len
   have KA := KC.out wr hB.out
   have KB := KI.out ao no co (vs.map Va.t) wr hO5.els (by rw [hno, List.length_map]; have := HN.out; omega)
   have hq1 : (incB 64 cs = true → Inc 64 cs) ∧ (incB 64 cs = false → T = false) := ⟨incB_iff.1, fun h => HG1.out fun hi => by rw [incB_t hi] at h; cases h⟩
   have hq2 : (incB 32 (vs.map Va.t) = true → Inc 32 (vs.map Va.t)) ∧ (incB 32 (vs.map Va.t) = false → T = false) := ⟨incB_iff.1, fun h => HG3.out fun hi => by rw [incB_t hi] at h; cases h⟩
   generalize incB 64 cs = Q1 at *
   generalize incB 32 (vs.map Va.t) = Q2 at *
   have HQ1 := Lib.hid hq1
   have HQ2 := Lib.hid hq2
   have KAH := Lib.hid KA
   have KBH := Lib.hid KB
   have KDH := Lib.hid (KD.out wr hB.out)
   obtain ⟨r0, r1, r2, -, -, -, r3⟩ := hX.out.open3
   clear hq1 hq2 KA KB hall hO5 hno hO hG KC KD KI KR
   cases Q1
   case false =>
    have HT := Lib.hid (HQ1.out.2 rfl)
    clear HQ1 HQ2
    go_wp2_with fail
    refine (KAH.out).mono ?_
    rintro e w2 ⟨rfl, rfl⟩
    go_wp2
    go_ret
    exact ⟨ret_bool HT.out.symm, hB.out⟩
   case true =>
    cases Q2
    case false =>
     have HT := Lib.hid (HQ2.out.2 rfl)
     clear HQ1 HQ2
     go_wp2_with fail
     refine (KAH.out).mono ?_
     rintro e w2 ⟨rfl, rfl⟩
     go_wp2_with fail
     refine (KBH.out).mono ?_
     rintro e w2 ⟨rfl, rfl⟩
     go_wp2
     go_ret
     exact ⟨ret_bool HT.out.symm, hB.out⟩
    case true =>
     have HT := Lib.hid (HG4.out (HQ1.out.1 rfl) HALL.out (HQ2.out.1 rfl))
     clear HQ1 HQ2
     go_wp2_with fail
     refine (KAH.out).mono ?_
     rintro e w2 ⟨rfl, rfl⟩
     go_wp2_with fail
     refine (KBH.out).mono ?_
     rintro e w2 ⟨rfl, rfl⟩
     go_wp2_with fail
     refine (KDH.out).mono ?_
     rintro e w2 ⟨rfl, hr⟩
     have HB2 := Lib.hid (hB.out.trans (hr.mono hB.out.size))
     clear hr
     go_wp2
     go_ret
     exact ⟨ret_bool (by rw [HT.out]), HB2.out⟩
theorem proper_all : ∀ m : Nat, m ≤ 1000000 → ProperK m
 | 0, _ => fun u hu => by have := u.size_pos; omega
 | m + 1, h => proper_step m (by omega) (Lib.hid (proper_all m (by omega)))
end Go.Proofs.YtgnloodmbgdgdaaGreat
namespace Go.Proofs.YtgnloodmbgdgdaaGreat
open Go.RowKit Go.Shelf
def Save (p : Nat) (A B : World) : Prop := A.heap.size ≤ B.heap.size ∧ ∀ b, b < A.heap.size → b ≠ p → B.heap[b]? = A.heap[b]?
theorem Save.refl (p : Nat) (A : World) : Save p A A := ⟨Nat.le_refl _, fun _ _ _ => rfl⟩
theorem Save.trans {p : Nat} {A B C : World} (h : Save p A B) (k : Save p B C) : Save p A C :=
 ⟨Nat.le_trans h.1 k.1, fun b hb hp => (k.2 b (Nat.lt_of_lt_of_le hb h.1) hp).trans (h.2 b hb hp)⟩
theorem Save.alloc {p : Nat} {A B : World} (h : Save p A B) (o : Obj) : Save p A (B.alloc o) :=
 ⟨Nat.le_trans h.1 (by simp), fun b hb hp => (Below.heap_alloc B o b (Nat.lt_of_lt_of_le hb h.1)).trans (h.2 b hb hp)⟩
theorem Save.set {p o : Nat} {A B : World} {v : Value} (h : Save p A B) : Save p A (B.setCell ⟨p, o, none⟩ v) :=
 ⟨by simpa [World.setCell] using h.1, fun b hb hp => (Below.heap_setCell _ _ _ _ hp).trans (h.2 b hb hp)⟩
theorem BoxL.save {p N : Nat} {A B : World} {vs : List Value} (h : BoxL N vs A) (hN : N ≠ p) (hS : Save p A B) : BoxL N vs B := by
 have e := hS.2 N h.1 hN
 refine ⟨Nat.lt_of_lt_of_le h.1 hS.1, fun i v hv => ?_⟩
 obtain ⟨h1, h2⟩ := h.2 i v hv
 constructor
 ·rw [← h1]; unfold World.cell?; rw [e]
 ·rw [← h2]; unfold World.frozen?; rw [e]
def VBox (P V : Nat) (k : Int) (W : World) : Prop := P ≠ V ∧ BoxL P [.int .i64 k] W ∧ BoxL V [.func (.func 153) #[] #[.pointer (some ⟨P, 0, none⟩), .pointer (some ⟨V, 0, none⟩)]] W
theorem VBox.alloc {P V : Nat} {k : Int} {W : World} (h : VBox P V k W) (o : Obj) : VBox P V k (W.alloc o) := ⟨h.1, h.2.1.under o, h.2.2.under o⟩
def VisPost (s dp : Nat) (l k B P V : Nat) (W : World) (e : Ending) (w' : World) : Prop :=
 ∃ (q : Bool) (k' : Nat), e = .returned (.bool q) ∧ Hid ((q = true → k' = k + s ∧ k' ≤ 96 ∧ l + dp ≤ 9) ∧ (q = false → 96 < k + s ∨ 9 < l + dp)) ∧ Hid (VBox P V (k' : Int) w') ∧ Hid (Save P W w') ∧ Hid (Below B W w')
def VisitT (m : Nat) : Prop := ∀ (u : Th), u.size ≤ m → ∀ (l k B P V : Nat) (x y z : Value) (W : World), l ≤ 9 → k ≤ 96 → B ≤ P → B ≤ V → VBox P V (k : Int) W → TAt B W u x y z →
 Calls Tryz.prog 153 #[.agg #[x, y, z], .int .i64 (l : Int), .pointer (some ⟨P, 0, none⟩), .pointer (some ⟨V, 0, none⟩)] W (VisPost u.size u.deep l k B P V W)
set_option maxHeartbeats 2000000 in
set_option maxRecDepth 100000 in
theorem vis1_any (m : Nat) (KV : Hid (VisitT m)) (u : Th) (hu : u.size ≤ m) (l k B P V N : Nat) (x y z : Value) (W : World) (hl : l ≤ 8) (hk : k ≤ 96) (hBP : B ≤ P) (hBV : B ≤ V) (hV : VBox P V (k : Int) W) (hN : BoxL N [.int .i64 (l : Int)] W) (hB : B ≤ W.heap.size) (h : TAt B W u x y z) :
  Calls Tryz.prog 154 #[.agg #[x, y, z], .pointer (some ⟨V, 0, none⟩), .pointer (some ⟨N, 0, none⟩)] W fun e w' => ∃ q : Bool, VisPost u.size u.deep (l + 1) k B P V W (.returned (.bool (!q))) w' ∧ e = .returned (.bool q) := by
 obtain ⟨a1, c1, a2, c2, a3, c3, rfl, rfl, rfl, -⟩ := h.shape
 have hab := fun o : Obj => (Below.refl B W).alloc hB o
 have K := Lib.hid fun o => KV.out u hu (l + 1) k B P V _ _ _ (W.alloc o) (by omega) hk hBP hBV (hV.alloc o) (TAt.low (hab o) u h)
 have HAB := Lib.hid hab
 obtain ⟨-, hp, hv⟩ := hV
 obtain ⟨v0, v1, v2⟩ := hv.open1
 obtain ⟨n0, n1, n2⟩ := hN.open1
 have i1 : IntKind.i64.wrap ((l : Int) + 1) = ((l + 1 : Nat) : Int) := by rw [IntWalk.i64_in _ (by omega)]; omega
 generalize u.size = us at *
 generalize u.deep = ud at *
 generalize u.cs.length = m1 at *
 generalize u.vs.length = m2 at *
 generalize u.ps.length = m3 at *
 clear h KV hu hp hv hN hab
 go_enter Tryz.func154, Tryz.ntmps154
 go_wp2_with fail
 refine (K.out _).mono ?_
 rintro e w2 ⟨q, k', rfl, hq, hVb, hS, hBB⟩
 have HS := Lib.hid ((Save.alloc (Save.refl P W) (.cells #[.slice a1 m1 c1, .slice a2 m2 c2, .slice a3 m3 c3] 41)).trans hS.out)
 have HB2 := Lib.hid ((HAB.out _).trans hBB.out)
 clear hS hBB
 go_wp2
 go_ret
 exact ⟨!q, ⟨q, k', by simp, hq, hVb, HS, HB2⟩, rfl⟩
def IdxV (s dp : Nat) (l k B P V : Nat) (W : World) (e : Ending) (w' : World) : Prop :=
 ∃ (v : Int) (k' : Nat), e = .returned (.int .i64 v) ∧ Hid ((v = -1 ∧ k' = k + s ∧ k' ≤ 96 ∧ l + dp ≤ 9) ∨ (0 ≤ v ∧ (96 < k + s ∨ 9 < l + dp))) ∧ Hid (VBox P V (k' : Int) w') ∧ Hid (Save P W w') ∧ Hid (Below B W w')
set_option maxHeartbeats 4000000 in
set_option maxRecDepth 100000 in
theorem idxv_any (m : Nat) (hm : m ≤ 1000000) (KV : Hid (VisitT m)) (sv : Value) (ts : List Th) (l k0 B P V N : Nat) (w : World) (hl : l ≤ 8) (hk : k0 ≤ 96) (hBP : B ≤ P) (hBV : B ≤ V) (hV : VBox P V (k0 : Int) w) (hN : BoxL N [.int .i64 (l : Int)] w) (hNP : N ≠ P) (hB : B ≤ w.heap.size) (h : Ps B w sv ts) (hs : Th.sizes ts ≤ m) :
  Calls Tryz.prog 159 #[sv, .func (.func 154) #[] #[.pointer (some ⟨V, 0, none⟩), .pointer (some ⟨N, 0, none⟩)]] w (IdxV (Th.sizes ts) (Th.deeps ts) (l + 1) k0 B P V w) := by
 obtain ⟨a, cap, rfl⟩ := h.shape
 have HP := Lib.hid h
 have hl6 := Th.sizes_len ts
 have HST := Lib.hid fun (j : Nat) => Th.sizes_take ts j
 have HDT : Hid (∀ (j : Nat) (u : Th), ts[j]? = some u → u.deep ≤ Th.deeps ts) := Lib.hid fun j u hu => by
  have h1 := Th.deeps_append (ts.take (j + 1)) (ts.drop (j + 1))
  rw [List.take_append_drop, Th.deeps_snoc hu] at h1
  omega
 have HSS : Hid (∀ (j : Nat) (u : Th), ts[j]? = some u → Th.sizes (ts.take j) + u.size ≤ Th.sizes ts) := Lib.hid fun j u hu => by
  have h1 := Th.sizes_take ts (j + 1)
  rw [Th.sizes_snoc hu] at h1
  exact h1
 have K1 := Lib.hid fun (u : Th) (hu : u ∈ ts) (k : Nat) (hk : k ≤ 96) x y z W (hV : VBox P V (k : Int) W) (hN : BoxL N [.int .i64 (l : Int)] W) (hB : B ≤ W.heap.size) (hh : TAt B W u x y z) => vis1_any m KV u (sizes_le hs hu) l k B P V N x y z W hl hk hBP hBV hV hN hB hh
 have HV0 := Lib.hid hV
 have HN0 := Lib.hid hN
 have HBW := Lib.hid hB
 generalize hn : ts.length = n at *
 have HN := Lib.hid hn
 have hn6 : n ≤ 1000000 := by omega
 have HNP := Lib.hid hNP
 clear h hs hn KV hV hN hl6 hB hNP
 go_enter Tryz.func159, Tryz.ntmps159
 go_wp2
 go_loopw [8] (fun x wr => ∃ j k : Nat, j ≤ n ∧ x = .int .i64 j ∧ k ≤ 96 ∧ Hid (k = k0 + Th.sizes (ts.take j)) ∧ Hid (l + 1 + Th.deeps (ts.take j) ≤ 9) ∧ Hid (VBox P V (k : Int) wr) ∧ Hid (Save P w wr) ∧ Hid (Below B w wr)) (fun x _ => n - (intOf x).toNat)
 case atStart => exact ⟨0, k0, by omega, rfl, hk, Lib.hid (by simp [Th.sizes]), Lib.hid (by simp [Th.deeps]; omega), HV0, Save.refl _ _, Below.refl _ _⟩
 case round =>
  obtain ⟨j, k, hj, rfl, hk96, hkk, hdd, hVb, hS, hB⟩ := hrel
  by_cases hlt : j < n
  ·have i1 : (j : Int) < n := by omega
   obtain ⟨g, u, rfl, hgB, hgs, hcap, hu, x, y, z, q0, q1, q2, hT⟩ := (HP.out.low hB.out).get hlt
   have hmem := List.mem_of_getElem? hu
   have K := Lib.hid (K1.out u hmem k hk96 x y z wr hVb.out (HN0.out.save HNP.out hS.out) (Nat.le_trans HBW.out hB.out.size) hT)
   have hsn := Th.sizes_snoc hu
   have hdn := Th.deeps_snoc hu
   have hss := HSS.out j u hu
   have hds := HDT.out j u hu
   have HSN := Lib.hid hsn
   have HDN := Lib.hid hdn
   have HSS1 := Lib.hid hss
   have HDS1 := Lib.hid hds
   generalize u.size = us at *
   generalize u.deep = ud at *
   clear hT hu hmem hsn hdn hss hds
   go_wp2_with fail
   refine (K.out).mono ?_
   rintro e w1 ⟨q, ⟨nq, k', he, hq, hV1, hS1, hB1⟩, rfl⟩
   have hnq : nq = !q := by
    simp only [Ending.returned.injEq, Value.bool.injEq] at he
    exact he.symm
   subst hnq
   have HS2 := Lib.hid (hS.out.trans hS1.out)
   have HB2 := Lib.hid (hB.out.trans hB1.out)
   clear he hS1 hB1 hS hB hVb
   cases q
   case false =>
    obtain ⟨e1, e2, e3⟩ := hq.out.1 rfl
    have HK : Hid (k' = k0 + Th.sizes (ts.take (j + 1))) := Lib.hid (by rw [HSN.out, e1, hkk.out]; omega)
    have HD : Hid (l + 1 + Th.deeps (ts.take (j + 1)) ≤ 9) := Lib.hid (by rw [HDN.out]; have := hdd.out; omega)
    clear hq hkk hdd e1 e3
    go_wp2
    go_roundw
    case rel => exact ⟨j + 1, k', by omega, by go_num, e2, HK, HD, hV1, HS2, HB2⟩
    case measure => simp [intOf]; omega
   case true =>
    have HF : Hid (96 < k0 + Th.sizes ts ∨ 9 < l + 1 + Th.deeps ts) := Lib.hid (by
     have h1 := hq.out.2 rfl
     have h2 := HSS1.out
     have h3 := HDS1.out
     have h4 := hkk.out
     omega)
    clear hq hkk hdd
    go_wp2
    go_ret
    exact ⟨j, k', rfl, Lib.hid (.inr ⟨by omega, HF.out⟩), hV1, HS2, HB2⟩
  ·have i1 : ¬ (j : Int) < n := by omega
   have h1 := hkk.out
   have h2 := hdd.out
   rw [List.take_of_length_le (by rw [HN.out]; omega)] at h1 h2
   have HA := Lib.hid h1
   have HB := Lib.hid h2
   clear hkk hdd h1 h2
   go_wp2
   go_ret
   exact ⟨-1, k, rfl, Lib.hid (.inl ⟨rfl, HA.out, hk96, HB.out⟩), hVb, hS, hB⟩
def ConV (s dp : Nat) (l k B P V : Nat) (W : World) (e : Ending) (w' : World) : Prop :=
 ∃ (q : Bool) (k' : Nat), e = .returned (.bool q) ∧ Hid ((q = false → k' = k + s ∧ k' ≤ 96 ∧ l + dp ≤ 9) ∧ (q = true → 96 < k + s ∨ 9 < l + dp)) ∧ Hid (VBox P V (k' : Int) w') ∧ Hid (Save P W w') ∧ Hid (Below B W w')
set_option maxHeartbeats 2000000 in
set_option maxRecDepth 100000 in
theorem conv_any (m : Nat) (hm : m ≤ 1000000) (KV : Hid (VisitT m)) (sv : Value) (ts : List Th) (l k0 B P V N : Nat) (w : World) (hl : l ≤ 8) (hk : k0 ≤ 96) (hBP : B ≤ P) (hBV : B ≤ V) (hV : VBox P V (k0 : Int) w) (hN : BoxL N [.int .i64 (l : Int)] w) (hNP : N ≠ P) (hB : B ≤ w.heap.size) (h : Ps B w sv ts) (hs : Th.sizes ts ≤ m) :
  Calls Tryz.prog 106 #[sv, .func (.func 154) #[] #[.pointer (some ⟨V, 0, none⟩), .pointer (some ⟨N, 0, none⟩)]] w (ConV (Th.sizes ts) (Th.deeps ts) (l + 1) k0 B P V w) := by
 have k1 := Lib.hid (idxv_any m hm KV sv ts l k0 B P V N w hl hk hBP hBV hV hN hNP hB h hs)
 obtain ⟨a, cap, rfl⟩ := h.shape
 generalize Th.sizes ts = ss at *
 generalize Th.deeps ts = sd at *
 generalize ts.length = n at *
 clear h hs KV hV hN
 go_enter Tryz.func106, Tryz.ntmps106
 go_wp2_with fail
 refine (k1.out).mono ?_
 rintro e w1 ⟨v, k', rfl, hv, hV1, hS1, hB1⟩
 by_cases hv0 : 0 ≤ v
 ·have HQ : Hid (96 < k0 + ss ∨ 9 < l + 1 + sd) := Lib.hid (by
   rcases hv.out with ⟨h1, _⟩ | ⟨_, h2⟩
   ·omega
   ·exact h2)
  clear hv
  go_wp2
  go_ret
  exact ⟨true, k', rfl, Lib.hid ⟨fun hh => (by cases hh), fun _ => HQ.out⟩, hV1, hS1, hB1⟩
 ·have HQ : Hid (k' = k0 + ss ∧ k' ≤ 96 ∧ l + 1 + sd ≤ 9) := Lib.hid (by
   rcases hv.out with ⟨_, h1⟩ | ⟨h2, _⟩
   ·exact h1
   ·omega)
  clear hv
  go_wp2
  go_ret
  exact ⟨false, k', ret_bool (decide_eq_false (by omega)), Lib.hid ⟨fun _ => HQ.out, fun hh => (by cases hh)⟩, hV1, hS1, hB1⟩
end Go.Proofs.YtgnloodmbgdgdaaGreat
