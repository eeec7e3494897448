/- Contracts of package span: interval, the closures. -/
import Derived.Test.YtimbgjpjgbjnkaaSwmSwm2
import Derived.RegionTactic
namespace Go.Proofs.Ytimbgjpjgbjnkaa
open Go.RowKit Go.Shelf

theorem BoxL.open8f {N : Nat} {a b c d e f g i : Value} {W : World} (h : BoxL N [a, b, c, d, e, f, g, i] W) : W.frozen? ⟨N, 0, none⟩ = false ∧ W.frozen? ⟨N, 1, none⟩ = false ∧ W.frozen? ⟨N, 2, none⟩ = false ∧ W.frozen? ⟨N, 3, none⟩ = false ∧ W.frozen? ⟨N, 4, none⟩ = false ∧ W.frozen? ⟨N, 5, none⟩ = false ∧ W.frozen? ⟨N, 6, none⟩ = false ∧ W.frozen? ⟨N, 7, none⟩ = false :=
  ⟨(h.2 0 a rfl).2, (h.2 1 b rfl).2, (h.2 2 c rfl).2, (h.2 3 d rfl).2, (h.2 4 e rfl).2, (h.2 5 f rfl).2, (h.2 6 g rfl).2, (h.2 7 i rfl).2⟩

theorem BoxL.set {W : World} {N : Nat} {vs : List Value} (h : BoxL N vs W) (k : Nat) (x : Value) (hk : k < vs.length) : BoxL N (vs.set k x) (W.setCell ⟨N, k, none⟩ x) := by
  refine ⟨?_, fun i v hv => ?_⟩
  · exact Nat.lt_of_lt_of_le h.1 ((Below.refl N W).setCell (p := ⟨N, k, none⟩) (Nat.le_refl _) x).size
  · rw [World.frozen?_setCell]
    rw [List.getElem?_set] at hv
    by_cases e : k = i
    · subst e
      rw [if_pos rfl, if_pos hk] at hv
      cases hv
      have o := h.2 k vs[k] (by simp [hk])
      exact ⟨World.cell?_setCell_same _ _ _ o.1, o.2⟩
    · rw [if_neg e] at hv
      have o := h.2 i v hv
      refine ⟨?_, o.2⟩
      rw [World.cell?_setCell_other _ ⟨N, k, none⟩ ⟨N, i, none⟩ _ (by simp)]
      exact o.1

theorem BoxL.store8 {W : World} {N : Nat} {a b c d e f g i : Value} (h : BoxL N [a, b, c, d, e, f, g, i] W) (x0 x1 x2 x3 x4 x5 x6 x7 : Value) : BoxL N [x0, x1, x2, x3, x4, x5, x6, x7] ((((((((W.setCell ⟨N, 0, none⟩ x0).setCell ⟨N, 1, none⟩ x1).setCell ⟨N, 2, none⟩ x2).setCell ⟨N, 3, none⟩ x3).setCell ⟨N, 4, none⟩ x4).setCell ⟨N, 5, none⟩ x5).setCell ⟨N, 6, none⟩ x6).setCell ⟨N, 7, none⟩ x7) :=
  (((((((h.set 0 x0 (by simp)).set 1 x1 (by simp)).set 2 x2 (by simp)).set 3 x3 (by simp)).set 4 x4 (by simp)).set 5 x5 (by simp)).set 6 x6 (by simp)).set 7 x7 (by simp)

theorem Below.set8 {B N : Nat} {w W : World} (h : Below B w W) (hN : B ≤ N) (x0 x1 x2 x3 x4 x5 x6 x7 : Value) : Below B w ((((((((W.setCell ⟨N, 0, none⟩ x0).setCell ⟨N, 1, none⟩ x1).setCell ⟨N, 2, none⟩ x2).setCell ⟨N, 3, none⟩ x3).setCell ⟨N, 4, none⟩ x4).setCell ⟨N, 5, none⟩ x5).setCell ⟨N, 6, none⟩ x6).setCell ⟨N, 7, none⟩ x7) :=
  (((((((h.setCell (p := ⟨N, 0, none⟩) hN x0).setCell (p := ⟨N, 1, none⟩) hN x1).setCell (p := ⟨N, 2, none⟩) hN x2).setCell (p := ⟨N, 3, none⟩) hN x3).setCell (p := ⟨N, 4, none⟩) hN x4).setCell (p := ⟨N, 5, none⟩) hN x5).setCell (p := ⟨N, 6, none⟩) hN x6).setCell (p := ⟨N, 7, none⟩) hN x7

theorem Since.set8 {N : Nat} {wb W : World} (h : Since wb W) (hN : wb.heap.size ≤ N) (x0 x1 x2 x3 x4 x5 x6 x7 : Value) : Since wb ((((((((W.setCell ⟨N, 0, none⟩ x0).setCell ⟨N, 1, none⟩ x1).setCell ⟨N, 2, none⟩ x2).setCell ⟨N, 3, none⟩ x3).setCell ⟨N, 4, none⟩ x4).setCell ⟨N, 5, none⟩ x5).setCell ⟨N, 6, none⟩ x6).setCell ⟨N, 7, none⟩ x7) := Below.set8 h hN x0 x1 x2 x3 x4 x5 x6 x7

theorem BoxL.newd {w w1 : World} {cs : Array Value} {t : TypeId} (hb : Below (w.alloc (.cells cs t)).drew.heap.size (w.alloc (.cells cs t)).drew w1) : BoxL w.heap.size cs.toList w1 := (BoxL.made w cs t).keep (((Below.refl _ _).drew).trans hb)

theorem BoxL.newn {w w1 : World} {cs : Array Value} {t : TypeId} (hb : Below (w.alloc (.cells cs t)).heap.size (w.alloc (.cells cs t)) w1) : BoxL w.heap.size cs.toList w1 := (BoxL.made w cs t).keep hb

theorem Since.size {wb w : World} (h : Since wb w) : wb.heap.size ≤ w.heap.size := Below.size h

theorem Since.astep {wb w w1 : World} {o : Obj} (h : Since wb w) (hb : Below (w.alloc o).heap.size (w.alloc o) w1) : Since wb w1 := Since.step (Since.alloc h o) hb

/-- A function's end behind the store of its named result, a struct of eight cells. -/
theorem bodyPost_end8 {prog : Program} {f : Func} {Q : Ending → World → Prop} {act : Act} {wx w : World} {B N : Nat} {z0 z1 z2 z3 z4 z5 z6 z7 x0 x1 x2 x3 x4 x5 x6 x7 : Value} (hX : BoxL N [z0, z1, z2, z3, z4, z5, z6, z7] wx) (hB : Below B w wx) (hN : B ≤ N) (hd : act.defers = []) (hr : ∀ W, BoxL N [x0, x1, x2, x3, x4, x5, x6, x7] W → (results f act.tmps).run prog W = .ok (.agg #[x0, x1, x2, x3, x4, x5, x6, x7]) W) (hQ : ∀ W, Below B w W → Q (.returned (.agg #[x0, x1, x2, x3, x4, x5, x6, x7])) W) : bodyPost prog f Q Exit.ret act ((((((((wx.setCell ⟨N, 0, none⟩ x0).setCell ⟨N, 1, none⟩ x1).setCell ⟨N, 2, none⟩ x2).setCell ⟨N, 3, none⟩ x3).setCell ⟨N, 4, none⟩ x4).setCell ⟨N, 5, none⟩ x5).setCell ⟨N, 6, none⟩ x6).setCell ⟨N, 7, none⟩ x7) :=
  bodyPost_ret (hr _ (hX.store8 x0 x1 x2 x3 x4 x5 x6 x7)) hd (hQ _ (Below.set8 hB hN x0 x1 x2 x3 x4 x5 x6 x7))

theorem BoxL.other {W : World} {R N k : Nat} {vs : List Value} {v : Value} (h : BoxL R vs W) (hne : R ≠ N) : BoxL R vs (W.setCell ⟨N, k, none⟩ v) := by
  refine ⟨Nat.lt_of_lt_of_le h.1 ((Below.refl N W).setCell (p := ⟨N, k, none⟩) (Nat.le_refl _) v).size, fun i u hu => ?_⟩
  rw [World.frozen?_setCell, World.cell?_setCell_other _ ⟨N, k, none⟩ ⟨R, i, none⟩ _ (fun h => hne (congrArg Addr.block h).symm)]
  exact h.2 i u hu

theorem bodyPost_end8d {prog : Program} {f : Func} {Q : Ending → World → Prop} {act : Act} {wx w : World} {B N : Nat} {z0 z1 z2 z3 z4 z5 z6 z7 x0 x1 x2 x3 x4 x5 x6 x7 : Value} (hX : BoxL N [z0, z1, z2, z3, z4, z5, z6, z7] wx) (hB : Below B w wx) (hN : B ≤ N) (hd : act.defers = []) (hr : ∀ W, BoxL N [x0, x1, x2, x3, x4, x5, x6, x7] W → (results f act.tmps).run prog W = .ok (.agg #[x0, x1, x2, x3, x4, x5, x6, x7]) W) (hQ : ∀ W, Below B w W → Q (.returned (.agg #[x0, x1, x2, x3, x4, x5, x6, x7])) W) :
    bodyPost prog f Q .ret act ((((((((wx.setCell ⟨N, 0, none⟩ x0).setCell ⟨N, 1, none⟩ x1).setCell ⟨N, 2, none⟩ x2).setCell ⟨N, 3, none⟩ x3).setCell ⟨N, 4, none⟩ x4).setCell ⟨N, 5, none⟩ x5).setCell ⟨N, 6, none⟩ x6).setCell ⟨N, 7, none⟩ x7).drew :=
  bodyPost_ret (hr _ ((hX.store8 x0 x1 x2 x3 x4 x5 x6 x7).keep (Below.refl _ _).drew)) hd (hQ _ (Below.set8 hB hN x0 x1 x2 x3 x4 x5 x6 x7).drew)

theorem bodyPost_end8dd {prog : Program} {f : Func} {Q : Ending → World → Prop} {act : Act} {wx w : World} {B N : Nat} {z0 z1 z2 z3 z4 z5 z6 z7 x0 x1 x2 x3 x4 x5 x6 x7 : Value} (hX : BoxL N [z0, z1, z2, z3, z4, z5, z6, z7] wx) (hB : Below B w wx) (hN : B ≤ N) (hd : act.defers = []) (hr : ∀ W, BoxL N [x0, x1, x2, x3, x4, x5, x6, x7] W → (results f act.tmps).run prog W = .ok (.agg #[x0, x1, x2, x3, x4, x5, x6, x7]) W) (hQ : ∀ W, Below B w W → Q (.returned (.agg #[x0, x1, x2, x3, x4, x5, x6, x7])) W) :
    bodyPost prog f Q .ret act ((((((((wx.setCell ⟨N, 0, none⟩ x0).setCell ⟨N, 1, none⟩ x1).setCell ⟨N, 2, none⟩ x2).setCell ⟨N, 3, none⟩ x3).setCell ⟨N, 4, none⟩ x4).setCell ⟨N, 5, none⟩ x5).setCell ⟨N, 6, none⟩ x6).setCell ⟨N, 7, none⟩ x7).drew.drew :=
  bodyPost_ret (hr _ ((hX.store8 x0 x1 x2 x3 x4 x5 x6 x7).keep (Below.refl _ _).drew.drew)) hd (hQ _ (Below.set8 hB hN x0 x1 x2 x3 x4 x5 x6 x7).drew.drew)

/-- What the first region of interval leaves. -/
def CutI (W3 : World) (r s : Bool) (v : Value) (wx : World) : Prop := ∃ N, v = .pointer (some ⟨N, 0, none⟩) ∧ W3.heap.size ≤ N ∧ Hid (BoxL N [.int .i64 0, .int .i64 0, .int .i64 0, .int .i64 0, .bool false, .bool false, .bool r, .bool s] wx) ∧ Hid (Since W3 wx)

set_option maxHeartbeats 8000000 in
set_option maxRecDepth 100000 in
theorem interval_any (f t : Cut) (w : World) (hf : FromC f) (ht : ToC t) :
    Calls Try.prog 88 #[f.v, t.v] w fun e w' => e = .returned (mkIv f t).v ∧ Below w.heap.size w w' := by
  have k1 := Lib.hid fun w => (lowest_any w).mono (R' := fun e w' => e = .returned lowC.v ∧ Below w.heap.size w w') (by rintro e w' ⟨rfl, rfl⟩; exact ⟨rfl, (Below.refl _ _).alloc (Nat.le_refl _) _⟩)
  have k2 := Lib.hid fun w => (highest_any w).mono (R' := fun e w' => e = .returned highC.v ∧ Below w.heap.size w w') (by rintro e w' ⟨rfl, rfl⟩; exact ⟨rfl, (Below.refl _ _).alloc (Nat.le_refl _) _⟩)
  have hcut : lowC.v = .agg #[.int .i64 (-1099511627776), .int .i64 1, .bool false] := rfl
  have hcut2 : highC.v = .agg #[.int .i64 1099511627776, .int .i64 1, .bool true] := rfl
  rw [hcut] at k1
  rw [hcut2] at k2
  clear hcut hcut2
  have hE : (mkIv f t).v = .agg #[.int .i64 (mkIv f t).a, .int .i64 (mkIv f t).b, .int .i64 (mkIv f t).c, .int .i64 (mkIv f t).d, .bool (mkIv f t).p, .bool (mkIv f t).q, .bool (mkIv f t).r, .bool (mkIv f t).s] := rfl
  have h1 : (f = lowC ∧ (mkIv f t).a = 0 ∧ (mkIv f t).b = 0 ∧ (mkIv f t).p = false ∧ (mkIv f t).r = true) ∨ ((f.n == -1099511627776) = false ∧ (mkIv f t).a = f.n ∧ (mkIv f t).b = f.d ∧ (mkIv f t).p = f.a ∧ (mkIv f t).r = false) := by
    rcases hf with h | h
    · exact .inl ⟨h, by unfold mkIv; simp [h], by unfold mkIv; simp [h], by unfold mkIv; simp [h], by unfold mkIv; simp [h]⟩
    · have hn := small_ne_low h
      exact .inr ⟨by have := h.2.1; simp; omega, by unfold mkIv; simp [hn], by unfold mkIv; simp [hn], by unfold mkIv; simp [hn], by unfold mkIv; simp [hn]⟩
  have h2 : (t = highC ∧ (mkIv f t).c = 0 ∧ (mkIv f t).d = 0 ∧ (mkIv f t).q = false ∧ (mkIv f t).s = true) ∨ ((t.n == 1099511627776) = false ∧ (mkIv f t).c = t.n ∧ (mkIv f t).d = t.d ∧ (mkIv f t).q = !t.a ∧ (mkIv f t).s = false) := by
    rcases ht with h | h
    · exact .inl ⟨h, by unfold mkIv; simp [h], by unfold mkIv; simp [h], by unfold mkIv; simp [h], by unfold mkIv; simp [h]⟩
    · have hn := small_ne_high h
      exact .inr ⟨by have := h.2.2.1; simp; omega, by unfold mkIv; simp [hn], by unfold mkIv; simp [hn], by unfold mkIv; simp [hn], by unfold mkIv; simp [hn]⟩
  rw [hE]
  generalize mkIv f t = R at *
  obtain ⟨ra, rb, rc, rd, rp, rq, rr, rs⟩ := R
  clear hE hf ht
  simp only at h1 h2
  obtain ⟨fn, fd, fa⟩ := f
  obtain ⟨tn, td, ta⟩ := t
  unfold Cut.v
  unfold lowC at h1
  unfold highC at h2
  simp only [Cut.mk.injEq] at *
  have XF := Lib.hid (((BoxL.made w #[.int .i64 fn, .int .i64 fd, .bool fa] 75).under (.cells #[.int .i64 tn, .int .i64 td, .bool ta] 75)).under (.cells #[.int .i64 0, .int .i64 0, .int .i64 0, .int .i64 0, .bool false, .bool false, .bool false, .bool false] 27))
  have xt := (BoxL.made (w.alloc (.cells #[.int .i64 fn, .int .i64 fd, .bool fa] 75)) #[.int .i64 tn, .int .i64 td, .bool ta] 75).under (.cells #[.int .i64 0, .int .i64 0, .int .i64 0, .int .i64 0, .bool false, .bool false, .bool false, .bool false] 27)
  rw [size_alloc] at xt
  have XT := Lib.hid xt
  have xr := cell_new8 ((w.alloc (.cells #[.int .i64 fn, .int .i64 fd, .bool fa] 75)).alloc (.cells #[.int .i64 tn, .int .i64 td, .bool ta] 75)) (.int .i64 0) (.int .i64 0) (.int .i64 0) (.int .i64 0) (.bool false) (.bool false) (.bool false) (.bool false) 27
  rw [size_alloc, size_alloc] at xr
  have XR := Lib.hid xr
  have HB := Lib.hid ((((Below.refl w.heap.size w).alloc (Nat.le_refl _) (.cells #[.int .i64 fn, .int .i64 fd, .bool fa] 75)).alloc (by simp) (.cells #[.int .i64 tn, .int .i64 td, .bool ta] 75)).alloc (by simp; omega) (.cells #[.int .i64 0, .int .i64 0, .int .i64 0, .int .i64 0, .bool false, .bool false, .bool false, .bool false] 27))
  clear xt xr
  go_enter Try.func88, Try.ntmps88
  go_upto_region 1 with (fail)
  generalize hW3 : ((w.alloc (.cells #[.int .i64 fn, .int .i64 fd, .bool fa] 75)).alloc (.cells #[.int .i64 tn, .int .i64 td, .bool ta] 75)).alloc (.cells #[.int .i64 0, .int .i64 0, .int .i64 0, .int .i64 0, .bool false, .bool false, .bool false, .bool false] 27) = W3 at *
  clear hW3
  obtain ⟨f0, f1, f2, -, -, -, f3⟩ := XF.out.open3
  obtain ⟨t0, t1, t2, -, -, -, t3⟩ := XT.out.open3
  have hSd : Since W3 W3.drew := Below.drew (Below.refl _ _)
  go_cut [5] (fun v wx => CutI W3 rr rs v wx)
  case first =>
    rcases h1 with ⟨⟨rfl, rfl, rfl⟩, -, -, -, rfl⟩ | ⟨b1, -, -, -, rfl⟩
    · rcases h2 with ⟨⟨rfl, rfl, rfl⟩, -, -, -, rfl⟩ | ⟨b2, -, -, -, rfl⟩
      · go_region_held3 (fun w' => w'.cell? ⟨w.heap.size, 0, none⟩ = some (.int .i64 (-1099511627776)) ∧ w'.cell? ⟨w.heap.size, 1, none⟩ = some (.int .i64 1) ∧ w'.cell? ⟨w.heap.size, 2, none⟩ = some (.bool false) ∧ w'.cell? ⟨w.heap.size + 1, 0, none⟩ = some (.int .i64 1099511627776) ∧ w'.cell? ⟨w.heap.size + 1, 1, none⟩ = some (.int .i64 1) ∧ w'.cell? ⟨w.heap.size + 1, 2, none⟩ = some (.bool true) ∧ Since W3 w')
          (first | with_reducible refine ⟨Since.cell ?_ f0, Since.cell ?_ f1, Since.cell ?_ f2, Since.cell ?_ t0, Since.cell ?_ t1, Since.cell ?_ t2, ?_⟩ <;> exact hSd | with_reducible refine ⟨Since.cell ?_ f0, Since.cell ?_ f1, Since.cell ?_ f2, Since.cell ?_ t0, Since.cell ?_ t1, Since.cell ?_ t2, ?_⟩ <;> exact hB | with_reducible refine ⟨Since.cell ?_ f0, Since.cell ?_ f1, Since.cell ?_ f2, Since.cell ?_ t0, Since.cell ?_ t1, Since.cell ?_ t2, ?_⟩ <;> exact Since.alloc hB _ | with_reducible refine ⟨Since.cell ?_ f0, Since.cell ?_ f1, Since.cell ?_ f2, Since.cell ?_ t0, Since.cell ?_ t1, Since.cell ?_ t2, ?_⟩ <;> exact Since.alloc hSd _ | with_reducible refine ⟨Since.cell ?_ f0, Since.cell ?_ f1, Since.cell ?_ f2, Since.cell ?_ t0, Since.cell ?_ t1, Since.cell ?_ t2, ?_⟩ <;> exact Since.adrew _ _ | with_reducible refine ⟨Since.cell ?_ f0, Since.cell ?_ f1, Since.cell ?_ f2, Since.cell ?_ t0, Since.cell ?_ t1, Since.cell ?_ t2, ?_⟩ <;> exact Since.set8 hB hN _ _ _ _ _ _ _ _ | with_reducible refine ⟨Since.cell ?_ f0, Since.cell ?_ f1, Since.cell ?_ f2, Since.cell ?_ t0, Since.cell ?_ t1, Since.cell ?_ t2, ?_⟩ <;> exact Since.set8 (Since.alloc hB _) (Since.size hB) _ _ _ _ _ _ _ _)
          (first
            | go_at_call 90; refine (k1.out _).mono ?_; rintro e w' ⟨rfl, hr⟩; (first | with_reducible have hB := Since.step hSd hr | with_reducible have hX := Lib.hid (BoxL.newd hr); have hB := Since.step (Since.adrew _ _) hr; have hN := Nat.le_refl W3.heap.size | with_reducible have hX := Lib.hid (BoxL.newn hr); have hN := Since.size hB; have hB := Since.astep hB hr | with_reducible have hX := Lib.hid (BoxL.newn hr); have hN := Since.size hSd; have hB := Since.astep hSd hr | with_reducible have hX := Lib.hid (hX.out.keep hr); have hB := Since.step hB hr | with_reducible have hB := Since.step hB hr); clear hr; (first | obtain ⟨y0, y1, y2, y3, y4, y5, y6, y7⟩ := hX.out.open8f; obtain ⟨x0, x1, x2, x3, x4, x5, x6, x7, x8⟩ := hX.out.open8 | skip)
            | go_at_call 87; refine (k2.out _).mono ?_; rintro e w' ⟨rfl, hr⟩; (first | with_reducible have hB := Since.step hSd hr | with_reducible have hX := Lib.hid (BoxL.newd hr); have hB := Since.step (Since.adrew _ _) hr; have hN := Nat.le_refl W3.heap.size | with_reducible have hX := Lib.hid (BoxL.newn hr); have hN := Since.size hB; have hB := Since.astep hB hr | with_reducible have hX := Lib.hid (BoxL.newn hr); have hN := Since.size hSd; have hB := Since.astep hSd hr | with_reducible have hX := Lib.hid (hX.out.keep hr); have hB := Since.step hB hr | with_reducible have hB := Since.step hB hr); clear hr; (first | obtain ⟨y0, y1, y2, y3, y4, y5, y6, y7⟩ := hX.out.open8f; obtain ⟨x0, x1, x2, x3, x4, x5, x6, x7, x8⟩ := hX.out.open8 | skip))
        all_goals (go_wp2_with fail; go_meet; unfold CutI; refine ⟨_, rfl, ?_, ?_, ?_⟩)
        all_goals first | with_reducible exact hN | with_reducible exact Since.size hB | with_reducible exact Lib.hid (hX.out.store8 _ _ _ _ _ _ _ _) | with_reducible exact Lib.hid (Since.set8 hB hN _ _ _ _ _ _ _ _) | with_reducible exact Lib.hid (BoxL.made _ _ _) | with_reducible exact Lib.hid (Since.alloc hB _) | with_reducible exact Lib.hid (BoxL.store8 (BoxL.made _ _ _) _ _ _ _ _ _ _ _) | with_reducible exact Lib.hid (Since.set8 (Since.alloc hB _) (Since.size hB) _ _ _ _ _ _ _ _) | (trace_state; fail)
      · go_region_held3 (fun w' => w'.cell? ⟨w.heap.size, 0, none⟩ = some (.int .i64 (-1099511627776)) ∧ w'.cell? ⟨w.heap.size, 1, none⟩ = some (.int .i64 1) ∧ w'.cell? ⟨w.heap.size, 2, none⟩ = some (.bool false) ∧ w'.cell? ⟨w.heap.size + 1, 0, none⟩ = some (.int .i64 tn) ∧ w'.cell? ⟨w.heap.size + 1, 1, none⟩ = some (.int .i64 td) ∧ w'.cell? ⟨w.heap.size + 1, 2, none⟩ = some (.bool ta) ∧ Since W3 w')
          (first | with_reducible refine ⟨Since.cell ?_ f0, Since.cell ?_ f1, Since.cell ?_ f2, Since.cell ?_ t0, Since.cell ?_ t1, Since.cell ?_ t2, ?_⟩ <;> exact hSd | with_reducible refine ⟨Since.cell ?_ f0, Since.cell ?_ f1, Since.cell ?_ f2, Since.cell ?_ t0, Since.cell ?_ t1, Since.cell ?_ t2, ?_⟩ <;> exact hB | with_reducible refine ⟨Since.cell ?_ f0, Since.cell ?_ f1, Since.cell ?_ f2, Since.cell ?_ t0, Since.cell ?_ t1, Since.cell ?_ t2, ?_⟩ <;> exact Since.alloc hB _ | with_reducible refine ⟨Since.cell ?_ f0, Since.cell ?_ f1, Since.cell ?_ f2, Since.cell ?_ t0, Since.cell ?_ t1, Since.cell ?_ t2, ?_⟩ <;> exact Since.alloc hSd _ | with_reducible refine ⟨Since.cell ?_ f0, Since.cell ?_ f1, Since.cell ?_ f2, Since.cell ?_ t0, Since.cell ?_ t1, Since.cell ?_ t2, ?_⟩ <;> exact Since.adrew _ _ | with_reducible refine ⟨Since.cell ?_ f0, Since.cell ?_ f1, Since.cell ?_ f2, Since.cell ?_ t0, Since.cell ?_ t1, Since.cell ?_ t2, ?_⟩ <;> exact Since.set8 hB hN _ _ _ _ _ _ _ _ | with_reducible refine ⟨Since.cell ?_ f0, Since.cell ?_ f1, Since.cell ?_ f2, Since.cell ?_ t0, Since.cell ?_ t1, Since.cell ?_ t2, ?_⟩ <;> exact Since.set8 (Since.alloc hB _) (Since.size hB) _ _ _ _ _ _ _ _)
          (first
            | go_at_call 90; refine (k1.out _).mono ?_; rintro e w' ⟨rfl, hr⟩; (first | with_reducible have hB := Since.step hSd hr | with_reducible have hX := Lib.hid (BoxL.newd hr); have hB := Since.step (Since.adrew _ _) hr; have hN := Nat.le_refl W3.heap.size | with_reducible have hX := Lib.hid (BoxL.newn hr); have hN := Since.size hB; have hB := Since.astep hB hr | with_reducible have hX := Lib.hid (BoxL.newn hr); have hN := Since.size hSd; have hB := Since.astep hSd hr | with_reducible have hX := Lib.hid (hX.out.keep hr); have hB := Since.step hB hr | with_reducible have hB := Since.step hB hr); clear hr; (first | obtain ⟨y0, y1, y2, y3, y4, y5, y6, y7⟩ := hX.out.open8f; obtain ⟨x0, x1, x2, x3, x4, x5, x6, x7, x8⟩ := hX.out.open8 | skip)
            | go_at_call 87; refine (k2.out _).mono ?_; rintro e w' ⟨rfl, hr⟩; (first | with_reducible have hB := Since.step hSd hr | with_reducible have hX := Lib.hid (BoxL.newd hr); have hB := Since.step (Since.adrew _ _) hr; have hN := Nat.le_refl W3.heap.size | with_reducible have hX := Lib.hid (BoxL.newn hr); have hN := Since.size hB; have hB := Since.astep hB hr | with_reducible have hX := Lib.hid (BoxL.newn hr); have hN := Since.size hSd; have hB := Since.astep hSd hr | with_reducible have hX := Lib.hid (hX.out.keep hr); have hB := Since.step hB hr | with_reducible have hB := Since.step hB hr); clear hr; (first | obtain ⟨y0, y1, y2, y3, y4, y5, y6, y7⟩ := hX.out.open8f; obtain ⟨x0, x1, x2, x3, x4, x5, x6, x7, x8⟩ := hX.out.open8 | skip))
        all_goals (go_wp2_with fail; go_meet; unfold CutI; refine ⟨_, rfl, ?_, ?_, ?_⟩)
        all_goals first | with_reducible exact hN | with_reducible exact Since.size hB | with_reducible exact Lib.hid (hX.out.store8 _ _ _ _ _ _ _ _) | with_reducible exact Lib.hid (Since.set8 hB hN _ _ _ _ _ _ _ _) | with_reducible exact Lib.hid (BoxL.made _ _ _) | with_reducible exact Lib.hid (Since.alloc hB _) | with_reducible exact Lib.hid (BoxL.store8 (BoxL.made _ _ _) _ _ _ _ _ _ _ _) | with_reducible exact Lib.hid (Since.set8 (Since.alloc hB _) (Since.size hB) _ _ _ _ _ _ _ _) | (trace_state; fail)
    · rcases h2 with ⟨⟨rfl, rfl, rfl⟩, -, -, -, rfl⟩ | ⟨b2, -, -, -, rfl⟩
      · go_region_held3 (fun w' => w'.cell? ⟨w.heap.size, 0, none⟩ = some (.int .i64 fn) ∧ w'.cell? ⟨w.heap.size, 1, none⟩ = some (.int .i64 fd) ∧ w'.cell? ⟨w.heap.size, 2, none⟩ = some (.bool fa) ∧ w'.cell? ⟨w.heap.size + 1, 0, none⟩ = some (.int .i64 1099511627776) ∧ w'.cell? ⟨w.heap.size + 1, 1, none⟩ = some (.int .i64 1) ∧ w'.cell? ⟨w.heap.size + 1, 2, none⟩ = some (.bool true) ∧ Since W3 w')
          (first | with_reducible refine ⟨Since.cell ?_ f0, Since.cell ?_ f1, Since.cell ?_ f2, Since.cell ?_ t0, Since.cell ?_ t1, Since.cell ?_ t2, ?_⟩ <;> exact hSd | with_reducible refine ⟨Since.cell ?_ f0, Since.cell ?_ f1, Since.cell ?_ f2, Since.cell ?_ t0, Since.cell ?_ t1, Since.cell ?_ t2, ?_⟩ <;> exact hB | with_reducible refine ⟨Since.cell ?_ f0, Since.cell ?_ f1, Since.cell ?_ f2, Since.cell ?_ t0, Since.cell ?_ t1, Since.cell ?_ t2, ?_⟩ <;> exact Since.alloc hB _ | with_reducible refine ⟨Since.cell ?_ f0, Since.cell ?_ f1, Since.cell ?_ f2, Since.cell ?_ t0, Since.cell ?_ t1, Since.cell ?_ t2, ?_⟩ <;> exact Since.alloc hSd _ | with_reducible refine ⟨Since.cell ?_ f0, Since.cell ?_ f1, Since.cell ?_ f2, Since.cell ?_ t0, Since.cell ?_ t1, Since.cell ?_ t2, ?_⟩ <;> exact Since.adrew _ _ | with_reducible refine ⟨Since.cell ?_ f0, Since.cell ?_ f1, Since.cell ?_ f2, Since.cell ?_ t0, Since.cell ?_ t1, Since.cell ?_ t2, ?_⟩ <;> exact Since.set8 hB hN _ _ _ _ _ _ _ _ | with_reducible refine ⟨Since.cell ?_ f0, Since.cell ?_ f1, Since.cell ?_ f2, Since.cell ?_ t0, Since.cell ?_ t1, Since.cell ?_ t2, ?_⟩ <;> exact Since.set8 (Since.alloc hB _) (Since.size hB) _ _ _ _ _ _ _ _)
          (first
            | go_at_call 90; refine (k1.out _).mono ?_; rintro e w' ⟨rfl, hr⟩; (first | with_reducible have hB := Since.step hSd hr | with_reducible have hX := Lib.hid (BoxL.newd hr); have hB := Since.step (Since.adrew _ _) hr; have hN := Nat.le_refl W3.heap.size | with_reducible have hX := Lib.hid (BoxL.newn hr); have hN := Since.size hB; have hB := Since.astep hB hr | with_reducible have hX := Lib.hid (BoxL.newn hr); have hN := Since.size hSd; have hB := Since.astep hSd hr | with_reducible have hX := Lib.hid (hX.out.keep hr); have hB := Since.step hB hr | with_reducible have hB := Since.step hB hr); clear hr; (first | obtain ⟨y0, y1, y2, y3, y4, y5, y6, y7⟩ := hX.out.open8f; obtain ⟨x0, x1, x2, x3, x4, x5, x6, x7, x8⟩ := hX.out.open8 | skip)
            | go_at_call 87; refine (k2.out _).mono ?_; rintro e w' ⟨rfl, hr⟩; (first | with_reducible have hB := Since.step hSd hr | with_reducible have hX := Lib.hid (BoxL.newd hr); have hB := Since.step (Since.adrew _ _) hr; have hN := Nat.le_refl W3.heap.size | with_reducible have hX := Lib.hid (BoxL.newn hr); have hN := Since.size hB; have hB := Since.astep hB hr | with_reducible have hX := Lib.hid (BoxL.newn hr); have hN := Since.size hSd; have hB := Since.astep hSd hr | with_reducible have hX := Lib.hid (hX.out.keep hr); have hB := Since.step hB hr | with_reducible have hB := Since.step hB hr); clear hr; (first | obtain ⟨y0, y1, y2, y3, y4, y5, y6, y7⟩ := hX.out.open8f; obtain ⟨x0, x1, x2, x3, x4, x5, x6, x7, x8⟩ := hX.out.open8 | skip))
        all_goals (go_wp2_with fail; go_meet; unfold CutI; refine ⟨_, rfl, ?_, ?_, ?_⟩)
        all_goals first | with_reducible exact hN | with_reducible exact Since.size hB | with_reducible exact Lib.hid (hX.out.store8 _ _ _ _ _ _ _ _) | with_reducible exact Lib.hid (Since.set8 hB hN _ _ _ _ _ _ _ _) | with_reducible exact Lib.hid (BoxL.made _ _ _) | with_reducible exact Lib.hid (Since.alloc hB _) | with_reducible exact Lib.hid (BoxL.store8 (BoxL.made _ _ _) _ _ _ _ _ _ _ _) | with_reducible exact Lib.hid (Since.set8 (Since.alloc hB _) (Since.size hB) _ _ _ _ _ _ _ _) | (trace_state; fail)
      · go_region_held3 (fun w' => w'.cell? ⟨w.heap.size, 0, none⟩ = some (.int .i64 fn) ∧ w'.cell? ⟨w.heap.size, 1, none⟩ = some (.int .i64 fd) ∧ w'.cell? ⟨w.heap.size, 2, none⟩ = some (.bool fa) ∧ w'.cell? ⟨w.heap.size + 1, 0, none⟩ = some (.int .i64 tn) ∧ w'.cell? ⟨w.heap.size + 1, 1, none⟩ = some (.int .i64 td) ∧ w'.cell? ⟨w.heap.size + 1, 2, none⟩ = some (.bool ta) ∧ Since W3 w')
          (first | with_reducible refine ⟨Since.cell ?_ f0, Since.cell ?_ f1, Since.cell ?_ f2, Since.cell ?_ t0, Since.cell ?_ t1, Since.cell ?_ t2, ?_⟩ <;> exact hSd | with_reducible refine ⟨Since.cell ?_ f0, Since.cell ?_ f1, Since.cell ?_ f2, Since.cell ?_ t0, Since.cell ?_ t1, Since.cell ?_ t2, ?_⟩ <;> exact hB | with_reducible refine ⟨Since.cell ?_ f0, Since.cell ?_ f1, Since.cell ?_ f2, Since.cell ?_ t0, Since.cell ?_ t1, Since.cell ?_ t2, ?_⟩ <;> exact Since.alloc hB _ | with_reducible refine ⟨Since.cell ?_ f0, Since.cell ?_ f1, Since.cell ?_ f2, Since.cell ?_ t0, Since.cell ?_ t1, Since.cell ?_ t2, ?_⟩ <;> exact Since.alloc hSd _ | with_reducible refine ⟨Since.cell ?_ f0, Since.cell ?_ f1, Since.cell ?_ f2, Since.cell ?_ t0, Since.cell ?_ t1, Since.cell ?_ t2, ?_⟩ <;> exact Since.adrew _ _ | with_reducible refine ⟨Since.cell ?_ f0, Since.cell ?_ f1, Since.cell ?_ f2, Since.cell ?_ t0, Since.cell ?_ t1, Since.cell ?_ t2, ?_⟩ <;> exact Since.set8 hB hN _ _ _ _ _ _ _ _ | with_reducible refine ⟨Since.cell ?_ f0, Since.cell ?_ f1, Since.cell ?_ f2, Since.cell ?_ t0, Since.cell ?_ t1, Since.cell ?_ t2, ?_⟩ <;> exact Since.set8 (Since.alloc hB _) (Since.size hB) _ _ _ _ _ _ _ _)
          (first
            | go_at_call 90; refine (k1.out _).mono ?_; rintro e w' ⟨rfl, hr⟩; (first | with_reducible have hB := Since.step hSd hr | with_reducible have hX := Lib.hid (BoxL.newd hr); have hB := Since.step (Since.adrew _ _) hr; have hN := Nat.le_refl W3.heap.size | with_reducible have hX := Lib.hid (BoxL.newn hr); have hN := Since.size hB; have hB := Since.astep hB hr | with_reducible have hX := Lib.hid (BoxL.newn hr); have hN := Since.size hSd; have hB := Since.astep hSd hr | with_reducible have hX := Lib.hid (hX.out.keep hr); have hB := Since.step hB hr | with_reducible have hB := Since.step hB hr); clear hr; (first | obtain ⟨y0, y1, y2, y3, y4, y5, y6, y7⟩ := hX.out.open8f; obtain ⟨x0, x1, x2, x3, x4, x5, x6, x7, x8⟩ := hX.out.open8 | skip)
            | go_at_call 87; refine (k2.out _).mono ?_; rintro e w' ⟨rfl, hr⟩; (first | with_reducible have hB := Since.step hSd hr | with_reducible have hX := Lib.hid (BoxL.newd hr); have hB := Since.step (Since.adrew _ _) hr; have hN := Nat.le_refl W3.heap.size | with_reducible have hX := Lib.hid (BoxL.newn hr); have hN := Since.size hB; have hB := Since.astep hB hr | with_reducible have hX := Lib.hid (BoxL.newn hr); have hN := Since.size hSd; have hB := Since.astep hSd hr | with_reducible have hX := Lib.hid (hX.out.keep hr); have hB := Since.step hB hr | with_reducible have hB := Since.step hB hr); clear hr; (first | obtain ⟨y0, y1, y2, y3, y4, y5, y6, y7⟩ := hX.out.open8f; obtain ⟨x0, x1, x2, x3, x4, x5, x6, x7, x8⟩ := hX.out.open8 | skip))
        all_goals (go_wp2_with fail; go_meet; unfold CutI; refine ⟨_, rfl, ?_, ?_, ?_⟩)
        all_goals first | with_reducible exact hN | with_reducible exact Since.size hB | with_reducible exact Lib.hid (hX.out.store8 _ _ _ _ _ _ _ _) | with_reducible exact Lib.hid (Since.set8 hB hN _ _ _ _ _ _ _ _) | with_reducible exact Lib.hid (BoxL.made _ _ _) | with_reducible exact Lib.hid (Since.alloc hB _) | with_reducible exact Lib.hid (BoxL.store8 (BoxL.made _ _ _) _ _ _ _ _ _ _ _) | with_reducible exact Lib.hid (Since.set8 (Since.alloc hB _) (Since.size hB) _ _ _ _ _ _ _ _) | (trace_state; fail)
  case rest =>
    obtain ⟨N, rfl, hN, hX, hS⟩ := hcut
    have XF2 := Lib.hid (XF.out.keep hS.out)
    have XT2 := Lib.hid (XT.out.keep hS.out)
    have XR2 := Lib.hid (XR.out.keep hS.out)
    have HB2 := Lib.hid (HB.out.trans (Below.mono hS.out HB.out.size))
    have hW3 := XR.out.1
    clear f0 f1 f2 f3 t0 t1 t2 t3 hSd XF XT XR HB k1 k2 hS
    have n1 : w.heap.size < N := by omega
    have n2 : w.heap.size + 1 < N := by omega
    have n3 : w.heap.size + 1 + 1 < N := by omega
    clear hN hW3
    rename World => wx
    obtain ⟨f0, f1, f2, -, -, -, f3⟩ := XF2.out.open3
    obtain ⟨t0, t1, t2, -, -, -, t3⟩ := XT2.out.open3
    obtain ⟨x0, x1, x2, x3, x4, x5, x6, x7, x8⟩ := hX.out.open8
    obtain ⟨y0, y1, y2, y3, y4, y5, y6, y7⟩ := hX.out.open8f
    obtain ⟨r0, r1, r2, r3, r4, r5, r6, r7, r8⟩ := XR2.out.open8
    obtain ⟨z0, z1, z2, z3, z4, z5, z6, z7⟩ := XR2.out.open8f
    have XR3 := Lib.hid XR2.out
    clear XF2 XT2 XR2 hX
    rcases h1 with ⟨-, a1, a2, a3, rfl⟩ | ⟨-, a1, a2, a3, rfl⟩ <;> rcases h2 with ⟨-, c1, c2, c3, rfl⟩ | ⟨-, c1, c2, c3, rfl⟩
    all_goals
      subst a1 a2 a3 c1 c2 c3
      go_wp2
      try (go_region; go_wp2)
      try (go_region; go_wp2)
      have hRN : w.heap.size + 1 + 1 ≠ N := by omega
      have hwN : w.heap.size ≤ N := by omega
      first
        | with_reducible refine bodyPost_end8 (B := w.heap.size) (w := w) (z0 := .int .i64 0) (z1 := .int .i64 0) (z2 := .int .i64 0) (z3 := .int .i64 0) (z4 := .bool false) (z5 := .bool false) (z6 := .bool false) (z7 := .bool false) ?hX ?hB ?hN ?hd ?hr ?hQ
        | with_reducible refine bodyPost_end8d (B := w.heap.size) (w := w) (z0 := .int .i64 0) (z1 := .int .i64 0) (z2 := .int .i64 0) (z3 := .int .i64 0) (z4 := .bool false) (z5 := .bool false) (z6 := .bool false) (z7 := .bool false) ?hX ?hB ?hN ?hd ?hr ?hQ
        | with_reducible refine bodyPost_end8dd (B := w.heap.size) (w := w) (z0 := .int .i64 0) (z1 := .int .i64 0) (z2 := .int .i64 0) (z3 := .int .i64 0) (z4 := .bool false) (z5 := .bool false) (z6 := .bool false) (z7 := .bool false) ?hX ?hB ?hN ?hd ?hr ?hQ
      case hQ =>
        intro W h
        exact ⟨rfl, h⟩
      case hX =>
        (repeat with_reducible refine BoxL.other ?_ hRN)
        exact XR3.out
      case hB =>
        (repeat with_reducible refine Below.setCell ?_ hwN _)
        exact HB2.out
      case hN => omega
      case hd => rfl
      case hr =>
        intro W h
        obtain ⟨o0, o1, o2, o3, o4, o5, o6, o7, o8⟩ := h.open8
        clear h
        simp [results, Try.results88, go_sem, o0, o1, o2, o3, o4, o5, o6, o7]

end Go.Proofs.Ytimbgjpjgbjnkaa
