/- The generator of things: Some; stores into rows of things. -/
import Derived.Test.YtelhpndlejommaaGreatYi
namespace Go.Proofs.YtelhpndlejommaaGreat
open Go.RowKit Go.Shelf

/-- What a call that makes a thing leaves. -/
def ThOut (S0 : Nat → Prop) (P : Th → Prop) (W : World) (e : Ending) (w' : World) : Prop :=
  ∃ (t : Th) (r : Tr), e = .returned (.agg #[.slice r.a1 r.n1 r.c1, .slice r.a2 r.n2 r.c2, .slice r.a3 r.n3 r.c3]) ∧ Hid (TSr (fun k => (S0 k ∨ W.heap.size ≤ k) ∧ k < w'.heap.size) w' t r) ∧ Hid (P t) ∧ Hid (Below W.heap.size W w')

/-- Stores of a thing's slices into the result's box. -/
def put3 (w : World) (N : Nat) (a b c : Value) : World := ((w.setCell ⟨N, 0, none⟩ a).setCell ⟨N, 1, none⟩ b).setCell ⟨N, 2, none⟩ c

theorem put3_keep {S : Nat → Prop} (w : World) (N : Nat) (a b c : Value) (h : ∀ k, S k → k ≠ N) : KeepS S w (put3 w N a b c) := by
  refine ⟨by unfold put3; simp only [World.size_setCell]; exact Nat.le_refl _, fun k hb hl => ?_⟩
  have hne := h k hb
  unfold put3
  rw [Below.heap_setCell _ _ _ _ hne, Below.heap_setCell _ _ _ _ hne, Below.heap_setCell _ _ _ _ hne]

theorem put3_below {B N : Nat} {w w' : World} (h : Below B w w') (hN : B ≤ N) (a b c : Value) : Below B w (put3 w' N a b c) :=
  ((h.setCell (p := ⟨N, 0, none⟩) hN a).setCell (p := ⟨N, 1, none⟩) hN b).setCell (p := ⟨N, 2, none⟩) hN c

set_option maxHeartbeats 2000000 in
set_option maxRecDepth 100000 in
theorem Some_any (zs : List Int) (d m : Nat) (sv : Value) (W : World) (hd : d ≤ 4) (hE : Els .i64 W sv zs) (hwf : Wfs zs) (hm : m ≤ 64) :
    Calls Tryz.prog 16 #[sv, .int .i64 m, .int .i64 d] W (ThOut (fun _ => False) (fun t => t.wf ∧ t.wt ≤ 10000) W) := by
  obtain ⟨a0, c0, rfl⟩ := hE.shape
  obtain ⟨W1, hW1⟩ : ∃ W1, W1 = W.alloc (.cells #[.slice none 0 0, .slice none 0 0, .slice none 0 0] 27) := ⟨_, rfl⟩
  have hB1 : Below W.heap.size W W1 := by rw [hW1]; exact (Below.refl _ _).alloc (Nat.le_refl _) _
  have hR : BoxL W.heap.size [.slice none 0 0, .slice none 0 0, .slice none 0 0] W1 := by rw [hW1]; exact BoxL.made W _ _
  have hsz1 : W1.heap.size = W.heap.size + 1 := by rw [hW1, World.size_alloc]
  have hnn : nn d ≤ 121 := by
    match d, hd with
    | 0, _ => decide
    | 1, _ => decide
    | 2, _ => decide
    | 3, _ => decide
    | 4, _ => decide
  have k1 := some_all d (by omega) zs 0 m _ W1 (hE.below hB1) hwf hm (by omega)
  have HN := Lib.hid hnn
  have K := Lib.hid k1
  have HR := Lib.hid hR
  have HB1 := Lib.hid hB1
  have HSZ := Lib.hid hsz1
  clear k1 hR hB1 hE hwf hnn hsz1
  go_enter Tryz.func16, Tryz.ntmps16
  go_upto_region 1 with (fail)
  rw [← hW1]
  clear hW1
  go_wp2_with fail
  refine K.out.mono ?_
  rintro e w2 ⟨t, ⟨a1, n1, c1, a2, n2, c2, a3, n3, c3⟩, k, rfl, hT, hw, hk, hB2⟩
  obtain ⟨w3, hw3⟩ : ∃ w3, w3 = w2.alloc (.cells #[.slice a1 n1 c1, .slice a2 n2 c2, .slice a3 n3 c3] 27) := ⟨_, rfl⟩
  have hS3 : Since W1 w3 := by rw [hw3]; exact Since.alloc hB2.out _
  have hX3 : BoxL w2.heap.size [.slice a1 n1 c1, .slice a2 n2 c2, .slice a3 n3 c3] w3 := by rw [hw3]; exact BoxL.made w2 _ _
  have hT3 : TSr (fun k => (W1.heap.size ≤ k) ∧ k < w3.heap.size) w3 t ⟨a1, n1, c1, a2, n2, c2, a3, n3, c3⟩ := by
    refine TS.keep (S' := fun k => W1.heap.size ≤ k) (w := w2) ?_ (fun k _ hk => hk.1) t hT.out
    rw [hw3]
    exact ⟨by simp, fun b _ hl => Below.heap_alloc _ _ _ hl⟩
  obtain ⟨z0, z1, z2, zf0, zf1, zf2, -⟩ := (HR.out.keep hS3).open3
  obtain ⟨x0, x1, x2, -, -, -, -⟩ := hX3.open3
  have hfin : Hid (ThOut (fun _ => False) (fun t => t.wf ∧ t.wt ≤ 10000) W (.returned (.agg #[.slice a1 n1 c1, .slice a2 n2 c2, .slice a3 n3 c3])) (put3 w3 W.heap.size (.slice a1 n1 c1) (.slice a2 n2 c2) (.slice a3 n3 c3))) := by
    refine Lib.hid ⟨t, ⟨a1, n1, c1, a2, n2, c2, a3, n3, c3⟩, rfl, Lib.hid ?_, Lib.hid ⟨hw.out.1, by have := hw.out.2; have := HN.out; omega⟩, Lib.hid ?_⟩
    · exact TS.keep (put3_keep _ _ _ _ _ fun k hk => by have := HSZ.out; omega) (S' := fun k => False ∨ W.heap.size ≤ k) (fun b _ hb => .inr (by have := HSZ.out; omega)) _ hT3
    · exact put3_below (HB1.out.trans (Below.mono hS3 HB1.out.size)) (Nat.le_refl _) _ _ _
  unfold put3 at hfin
  clear hT hw hk hB2 hS3 hX3 hT3 HR K
  go_upto_region 2 with (fail)
  rw [← hw3]
  generalize w2.heap.size = M at *
  clear hw3
  go_wp2
  exact bodyPost_ret (v := .agg #[.slice a1 n1 c1, .slice a2 n2 c2, .slice a3 n3 c3]) (by simp [results, Tryz.results16, go_sem, z0, z1, z2]) rfl hfin.out

theorem row_set {α : Type} (R : RowOf α) (a b c : α → Value) (hc : ∀ x, R.cells x = [a x, b x, c x]) (rs : List α) (j : Nat) (r : α) (hj : j < rs.length) :
    (((rs.flatMap R.cells).set (j * 3) (a r)).set (j * 3 + 1) (b r)).set (j * 3 + 2) (c r) = (rs.set j r).flatMap R.cells := by
  induction rs generalizing j with
  | nil => simp at hj
  | cons x xs ih =>
    rw [List.flatMap_cons, hc]
    cases j with
    | zero => simp [hc]
    | succ j =>
      have h := ih j (by simpa using hj)
      rw [List.set_cons_succ, List.flatMap_cons, hc, ← h]
      have e : ∀ (n : Nat) (l : List Value) (v : Value), ([a x, b x, c x] ++ l).set (n + 3) v = [a x, b x, c x] ++ l.set n v := fun n l v => rfl
      rw [show (j + 1) * 3 = j * 3 + 3 by omega, show j * 3 + 3 + 1 = j * 3 + 1 + 3 by omega, show j * 3 + 3 + 2 = j * 3 + 2 + 3 by omega, e, e, e]

/-- A thing stored into a row of the call's own. -/
theorem ROwn.set3 {E : TypeId} {B : Nat} {w : World} {g n c : Nat} {rs : List Tr} (h : ROwn RTh E B w (.slice (some ⟨g, 0, none⟩) n c) rs) (j : Nat) (hj : j < rs.length) (r : Tr) :
    ROwn RTh E B (((w.setCell ⟨g, j * 3, none⟩ (.slice r.a1 r.n1 r.c1)).setCell ⟨g, j * 3 + 1, none⟩ (.slice r.a2 r.n2 r.c2)).setCell ⟨g, j * 3 + 2, none⟩ (.slice r.a3 r.n3 r.c3)) (.slice (some ⟨g, 0, none⟩) n c) (rs.set j r) := by
  have hn := h.els.len
  subst hn
  have h1 := (World.ownsRow.stored h (j * 3) (.slice r.a1 r.n1 r.c1)).1
  have h2 := (World.ownsRow.stored h1 (j * 3 + 1) (.slice r.a2 r.n2 r.c2)).1
  have h3 := (World.ownsRow.stored h2 (j * 3 + 2) (.slice r.a3 r.n3 r.c3)).1
  unfold ROwn
  rw [← row_set RTh (fun x => .slice x.a1 x.n1 x.c1) (fun x => .slice x.a2 x.n2 x.c2) (fun x => .slice x.a3 x.n3 x.c3) (fun _ => rfl) rs j r hj, List.length_set]
  exact h3

end Go.Proofs.YtelhpndlejommaaGreat
