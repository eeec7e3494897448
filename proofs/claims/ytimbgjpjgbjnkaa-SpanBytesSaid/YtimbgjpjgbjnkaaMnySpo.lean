import Derived.Test.YtimbgjpjgbjnkaaIv2
/- Contracts of the reference of span: Many. -/
namespace Go.Proofs.Ytimbgjpjgbjnkaa
open Go.RowKit Go.Shelf

/-- The interval of one whole number. -/
def oneIv (z : Int) : Iv := ⟨z, 1, z, 1, false, false, false, false⟩

/-- So many whole numbers, each an interval. -/
def manyL (from' : Int) (n : Nat) : List Iv := (List.range n).map fun (i : Nat) => oneIv (from' + (i : Int))

theorem manyL_zero (z : Int) : manyL z 0 = [] := rfl

theorem manyL_succ (z : Int) (n : Nat) : manyL z (n + 1) = manyL z n ++ [oneIv (z + (n : Int))] := by
  unfold manyL
  rw [List.range_succ, List.map_append]
  rfl

theorem manyL_len (z : Int) (n : Nat) : (manyL z n).length = n := by
  unfold manyL
  rw [List.length_map, List.length_range]

/-- A list of a call's own is left. -/
def OwnIv (L : List Iv) (w : World) (e : Ending) (w' : World) : Prop := ∃ a n c, e = .returned (.slice a n c) ∧ Hid (ROwn RIv 27 w.heap.size w' (.slice a n c) L) ∧ Hid (Below w.heap.size w w')

set_option maxHeartbeats 4000000 in
set_option maxRecDepth 100000 in
theorem many_any (n : Nat) (z : Int) (w : World) (hn : n ≤ 1000000) (hz : -1000000000 ≤ z ∧ z ≤ 1000000000) :
    Calls Try.prog 10 #[.int .i64 (n : Int), .int .i64 z] w (OwnIv (manyL z n) w) := by
  obtain ⟨z1, z2⟩ := hz
  go_enter Try.func10, Try.ntmps10
  go_wp2
  go_loopw [5, 6] (fun v x wr => ∃ i : Nat, ∃ ao no co, i ≤ n ∧ x = .int .i64 i ∧ v = .slice ao no co ∧ Hid (ROwn RIv 27 w.heap.size wr (.slice ao no co) (manyL z i)) ∧ Hid (Below w.heap.size w wr)) (fun _ x _ => n + 1 - (intOf x).toNat)
  case atStart => exact ⟨0, none, 0, 0, by omega, rfl, rfl, ROwn.nil _ _ _ _, Below.refl _ _⟩
  case round =>
    obtain ⟨i, ao, no, co, hi, rfl, rfl, hO, hB⟩ := hrel
    by_cases hlt : i < n
    · have n1 : (i : Int) < n := by omega
      have n2 : IntKind.i64.wrap (z + (i : Int)) = z + (i : Int) := IntWalk.i64_in _ (by omega)
      have hll : (manyL z i).length + 1 ≤ 1000000000 := by rw [manyL_len]; omega
      have hB1 : Hid (Below w.heap.size w (wr.alloc (.cells #[.int .i64 (z + (i : Int)), .int .i64 1] 25))) := Lib.hid (hB.out.alloc hB.out.size _)
      have hO1 := Lib.hid (hO.out.below (w := wr) (W := wr.alloc (.cells #[.int .i64 (z + (i : Int)), .int .i64 1] 25)) ((Below.refl _ _).alloc (Nat.le_refl _) _))
      have hz1 := hB1.out.size
      have HGS : Hid ((wr.alloc (.cells #[.int .i64 (z + (i : Int)), .int .i64 1] 25)).heap.size = wr.heap.size + 1) := Lib.hid (by simp)
      go_wp2_with (at_builtin; refine push_row rfl _ _ _ rfl RIv 27 40 _ Try.underlying23 Try.infoIv rfl (by decide) w.heap.size (.slice ao no co) (manyL z i) [oneIv (z + (i : Int))] _ _ rfl rfl (wr.heap.size + 1) 1 HGS.out rfl rfl hO1.out hz1 hll ?_; intro an nn cn wn hnn hOn hBn)
      have HO2 : Hid (ROwn RIv 27 w.heap.size wn (.slice an nn cn) (manyL z (i + 1))) := by
        rw [manyL_succ]
        exact hOn
      have HB2 := Lib.hid (hB1.out.trans hBn.out)
      have n3 : IntKind.i64.wrap ((i : Int) + 1) = (i : Int) + 1 := IntWalk.i64_in _ (by omega)
      clear hO hB hB1 hO1 hz1 HGS hOn hBn
      go_wp2
      go_roundw
      case rel => exact ⟨i + 1, an, nn, cn, by omega, by go_num, rfl, HO2, HB2⟩
      case measure => simp [intOf]; omega
    · have e : i = n := by omega
      subst e
      clear hlt
      go_wp2
      go_ret
      exact ⟨ao, no, co, rfl, hO, hB⟩

end Go.Proofs.Ytimbgjpjgbjnkaa

/- Contracts of the reference of span: Spoilt. -/
namespace Go.Proofs.Ytimbgjpjgbjnkaa
open Go.RowKit Go.Shelf

theorem flat_put {α : Type} (R : RowOf α) (xs : List α) : ∀ (j : Nat) (x y : α) (i : Nat) (v : Value), xs[j]? = some x → i < R.k → R.cells y = (R.cells x).set i v → (xs.set j y).flatMap R.cells = (xs.flatMap R.cells).set (j * R.k + i) v := by
  induction xs with
  | nil => intro j x y i v h; simp at h
  | cons a xs ih =>
    intro j x y i v h hi e
    cases j with
    | zero =>
      simp at h
      subst h
      rw [List.set_cons_zero, List.flatMap_cons, List.flatMap_cons, e, Nat.zero_mul, Nat.zero_add, List.set_append_left _ _ (by rw [R.len]; exact hi)]
    | succ j =>
      simp at h
      rw [List.set_cons_succ, List.flatMap_cons, List.flatMap_cons, ih j x y i v h hi e, List.set_append_right _ _ (by rw [R.len, Nat.succ_mul]; omega), R.len, show (j + 1) * R.k + i - R.k = j * R.k + i by rw [Nat.succ_mul]; omega]

/-- A cell of a row of one's own is written. -/
theorem ROwn.put {α : Type} {R : RowOf α} {E : TypeId} {B : Nat} {w : World} {g n c : Nat} {xs : List α} (h : ROwn R E B w (.slice (some ⟨g, 0, none⟩) n c) xs) (j i : Nat) (x y : α) (v : Value) (hx : xs[j]? = some x) (hi : i < R.k) (e : R.cells y = (R.cells x).set i v) :
    ROwn R E B (w.setCell ⟨g, j * R.k + i, none⟩ v) (.slice (some ⟨g, 0, none⟩) n c) (xs.set j y) := by
  have hn := h.els.len
  subst hn
  have := (World.ownsRow.stored h (j * R.k + i) v).1
  unfold ROwn
  rw [List.length_set, flat_put R xs j x y i v hx hi e]
  exact this

theorem ROwn.free {α : Type} {R : RowOf α} {E : TypeId} {B : Nat} {w : World} {g n c : Nat} {xs : List α} (h : ROwn R E B w (.slice (some ⟨g, 0, none⟩) n c) xs) (j : Nat) : w.frozen? ⟨g, j, none⟩ = false := by
  have hn := h.els.len
  subst hn
  exact World.ownsRow.frozenAt h j

/-- What Spoilt leaves: some list of its own. -/
def SpoOut (L : List Iv) (w : World) (e : Ending) (w' : World) : Prop := ∃ L' a n c, L'.length ≤ L.length + 1 ∧ (∀ x ∈ L', x.wf) ∧ e = .returned (.slice a n c) ∧ Hid (ROwn RIv 27 w.heap.size w' (.slice a n c) L') ∧ Hid (Below w.heap.size w w')

theorem wf_set {L : List Iv} (h : ∀ x ∈ L, x.wf) (j : Nat) {y : Iv} (hy : y.wf) : ∀ x ∈ L.set j y, x.wf := fun x hx => by
  rcases List.mem_or_eq_of_mem_set hx with h1 | rfl
  · exact h x h1
  · exact hy

/-- One cell of an interval is written: the end. -/
theorem spo_end {L : List Iv} {w W : World} {g n c j i : Nat} {x : Iv} (y : Iv) (v : Value) (hO : ROwn RIv 27 w.heap.size W (.slice (some ⟨g, 0, none⟩) n c) L) (hB : Below w.heap.size w W) (hg : w.heap.size ≤ g) (hwf : ∀ x ∈ L, x.wf) (hx : L[j]? = some x) (hi : i < 8) (e : RIv.cells y = (RIv.cells x).set i v) (hy : y.wf) :
    SpoOut L w (.returned (.slice (some ⟨g, 0, none⟩) n c)) (W.setCell ⟨g, j * 8 + i, none⟩ v) :=
  ⟨L.set j y, _, _, _, by rw [List.length_set]; omega, wf_set hwf j hy, rfl, hO.put j i x y v hx hi e, hB.setCell hg v⟩

/-- All cells of an interval are written. -/
theorem ROwn.put8 {E : TypeId} {B : Nat} {w : World} {g n c : Nat} {L : List Iv} (h : ROwn RIv E B w (.slice (some ⟨g, 0, none⟩) n c) L) (j : Nat) (z : Iv) (hz : L[j]? = some z) (ya yb yc yd : Int) (yp yq yr ys : Bool) :
    ROwn RIv E B ((((((((w.setCell ⟨g, j * 8, none⟩ (.int .i64 ya)).setCell ⟨g, j * 8 + 1, none⟩ (.int .i64 yb)).setCell ⟨g, j * 8 + 2, none⟩ (.int .i64 yc)).setCell ⟨g, j * 8 + 3, none⟩ (.int .i64 yd)).setCell ⟨g, j * 8 + 4, none⟩ (.bool yp)).setCell ⟨g, j * 8 + 5, none⟩ (.bool yq)).setCell ⟨g, j * 8 + 6, none⟩ (.bool yr)).setCell ⟨g, j * 8 + 7, none⟩ (.bool ys)) (.slice (some ⟨g, 0, none⟩) n c) (L.set j ⟨ya, yb, yc, yd, yp, yq, yr, ys⟩) := by
  have hj : j < L.length := (List.getElem?_eq_some_iff.1 hz).1
  obtain ⟨za, zb, zc, zd, zp, zq, zr, zs⟩ := z
  have h1 := h.put j 0 ⟨za, zb, zc, zd, zp, zq, zr, zs⟩ ⟨ya, zb, zc, zd, zp, zq, zr, zs⟩ (.int .i64 ya) (hz) (by decide) rfl
  have h2 := h1.put j 1 ⟨ya, zb, zc, zd, zp, zq, zr, zs⟩ ⟨ya, yb, zc, zd, zp, zq, zr, zs⟩ (.int .i64 yb) (List.getElem?_set_self (by first | exact hj | (simp only [List.length_set]; exact hj))) (by decide) rfl
  have h3 := h2.put j 2 ⟨ya, yb, zc, zd, zp, zq, zr, zs⟩ ⟨ya, yb, yc, zd, zp, zq, zr, zs⟩ (.int .i64 yc) (List.getElem?_set_self (by first | exact hj | (simp only [List.length_set]; exact hj))) (by decide) rfl
  have h4 := h3.put j 3 ⟨ya, yb, yc, zd, zp, zq, zr, zs⟩ ⟨ya, yb, yc, yd, zp, zq, zr, zs⟩ (.int .i64 yd) (List.getElem?_set_self (by first | exact hj | (simp only [List.length_set]; exact hj))) (by decide) rfl
  have h5 := h4.put j 4 ⟨ya, yb, yc, yd, zp, zq, zr, zs⟩ ⟨ya, yb, yc, yd, yp, zq, zr, zs⟩ (.bool yp) (List.getElem?_set_self (by first | exact hj | (simp only [List.length_set]; exact hj))) (by decide) rfl
  have h6 := h5.put j 5 ⟨ya, yb, yc, yd, yp, zq, zr, zs⟩ ⟨ya, yb, yc, yd, yp, yq, zr, zs⟩ (.bool yq) (List.getElem?_set_self (by first | exact hj | (simp only [List.length_set]; exact hj))) (by decide) rfl
  have h7 := h6.put j 6 ⟨ya, yb, yc, yd, yp, yq, zr, zs⟩ ⟨ya, yb, yc, yd, yp, yq, yr, zs⟩ (.bool yr) (List.getElem?_set_self (by first | exact hj | (simp only [List.length_set]; exact hj))) (by decide) rfl
  have h8 := h7.put j 7 ⟨ya, yb, yc, yd, yp, yq, yr, zs⟩ ⟨ya, yb, yc, yd, yp, yq, yr, ys⟩ (.bool ys) (List.getElem?_set_self (by first | exact hj | (simp only [List.length_set]; exact hj))) (by decide) rfl
  simp only [List.set_set] at h8
  exact h8

theorem spo_swap {L : List Iv} {w W : World} {g n c i : Nat} {za zb zc zd : Int} {zp zq zr zs : Bool} {ya yb yc yd : Int} {yp yq yr ys : Bool} (hO : ROwn RIv 27 w.heap.size W (.slice (some ⟨g, 0, none⟩) n c) L) (hB : Below w.heap.size w W) (hg : w.heap.size ≤ g) (hwf : ∀ x ∈ L, x.wf) (hx : ∃ u, L[i]? = some u) (hy : ∃ u, L[0]? = some u) (hzw : Iv.wf ⟨za, zb, zc, zd, zp, zq, zr, zs⟩) (hyw : Iv.wf ⟨ya, yb, yc, yd, yp, yq, yr, ys⟩) :
    SpoOut L w (.returned (.slice (some ⟨g, 0, none⟩) n c)) ((((((((((((((((W.setCell ⟨g, 0, none⟩ (.int .i64 za)).setCell ⟨g, 1, none⟩ (.int .i64 zb)).setCell ⟨g, 2, none⟩ (.int .i64 zc)).setCell ⟨g, 3, none⟩ (.int .i64 zd)).setCell ⟨g, 4, none⟩ (.bool zp)).setCell ⟨g, 5, none⟩ (.bool zq)).setCell ⟨g, 6, none⟩ (.bool zr)).setCell ⟨g, 7, none⟩ (.bool zs)).setCell ⟨g, i * 8, none⟩ (.int .i64 ya)).setCell ⟨g, i * 8 + 1, none⟩ (.int .i64 yb)).setCell ⟨g, i * 8 + 2, none⟩ (.int .i64 yc)).setCell ⟨g, i * 8 + 3, none⟩ (.int .i64 yd)).setCell ⟨g, i * 8 + 4, none⟩ (.bool yp)).setCell ⟨g, i * 8 + 5, none⟩ (.bool yq)).setCell ⟨g, i * 8 + 6, none⟩ (.bool yr)).setCell ⟨g, i * 8 + 7, none⟩ (.bool ys)).drew := by
  obtain ⟨u, hu⟩ := hy
  obtain ⟨v, hv⟩ := hx
  have hi : i < L.length := (List.getElem?_eq_some_iff.1 hv).1
  have h1 : ROwn RIv 27 w.heap.size ((((((((W.setCell ⟨g, 0, none⟩ (.int .i64 za)).setCell ⟨g, 1, none⟩ (.int .i64 zb)).setCell ⟨g, 2, none⟩ (.int .i64 zc)).setCell ⟨g, 3, none⟩ (.int .i64 zd)).setCell ⟨g, 4, none⟩ (.bool zp)).setCell ⟨g, 5, none⟩ (.bool zq)).setCell ⟨g, 6, none⟩ (.bool zr)).setCell ⟨g, 7, none⟩ (.bool zs)) (.slice (some ⟨g, 0, none⟩) n c) (L.set 0 ⟨za, zb, zc, zd, zp, zq, zr, zs⟩) := hO.put8 0 u hu za zb zc zd zp zq zr zs
  have h2 := h1.put8 i _ (List.getElem?_eq_getElem (by rw [List.length_set]; exact hi)) ya yb yc yd yp yq yr ys
  refine ⟨_, _, _, _, ?_, wf_set (wf_set hwf 0 hzw) i hyw, rfl, h2.below (Below.drew (Below.refl _ _)), Below.drew ?_⟩
  · rw [List.length_set, List.length_set]; omega
  · exact Below.setCell (Below.setCell (Below.setCell (Below.setCell (Below.setCell (Below.setCell (Below.setCell (Below.setCell (Below.setCell (Below.setCell (Below.setCell (Below.setCell (Below.setCell (Below.setCell (Below.setCell (Below.setCell hB hg _) hg _) hg _) hg _) hg _) hg _) hg _) hg _) hg _) hg _) hg _) hg _) hg _) hg _) hg _) hg _

theorem spo_swap0 {L : List Iv} {w W : World} {g n c : Nat} {za zb zc zd : Int} {zp zq zr zs : Bool} {ya yb yc yd : Int} {yp yq yr ys : Bool} (hO : ROwn RIv 27 w.heap.size W (.slice (some ⟨g, 0, none⟩) n c) L) (hB : Below w.heap.size w W) (hg : w.heap.size ≤ g) (hwf : ∀ x ∈ L, x.wf) (hy : ∃ u, L[0]? = some u) (hzw : Iv.wf ⟨za, zb, zc, zd, zp, zq, zr, zs⟩) (hyw : Iv.wf ⟨ya, yb, yc, yd, yp, yq, yr, ys⟩) :
    SpoOut L w (.returned (.slice (some ⟨g, 0, none⟩) n c)) ((((((((((((((((W.setCell ⟨g, 0, none⟩ (.int .i64 za)).setCell ⟨g, 1, none⟩ (.int .i64 zb)).setCell ⟨g, 2, none⟩ (.int .i64 zc)).setCell ⟨g, 3, none⟩ (.int .i64 zd)).setCell ⟨g, 4, none⟩ (.bool zp)).setCell ⟨g, 5, none⟩ (.bool zq)).setCell ⟨g, 6, none⟩ (.bool zr)).setCell ⟨g, 7, none⟩ (.bool zs)).setCell ⟨g, 0, none⟩ (.int .i64 ya)).setCell ⟨g, 1, none⟩ (.int .i64 yb)).setCell ⟨g, 2, none⟩ (.int .i64 yc)).setCell ⟨g, 3, none⟩ (.int .i64 yd)).setCell ⟨g, 4, none⟩ (.bool yp)).setCell ⟨g, 5, none⟩ (.bool yq)).setCell ⟨g, 6, none⟩ (.bool yr)).setCell ⟨g, 7, none⟩ (.bool ys)).drew := by
  obtain ⟨u, hu⟩ := hy
  have hi : 0 < L.length := (List.getElem?_eq_some_iff.1 hu).1
  have h1 : ROwn RIv 27 w.heap.size ((((((((W.setCell ⟨g, 0, none⟩ (.int .i64 za)).setCell ⟨g, 1, none⟩ (.int .i64 zb)).setCell ⟨g, 2, none⟩ (.int .i64 zc)).setCell ⟨g, 3, none⟩ (.int .i64 zd)).setCell ⟨g, 4, none⟩ (.bool zp)).setCell ⟨g, 5, none⟩ (.bool zq)).setCell ⟨g, 6, none⟩ (.bool zr)).setCell ⟨g, 7, none⟩ (.bool zs)) (.slice (some ⟨g, 0, none⟩) n c) (L.set 0 ⟨za, zb, zc, zd, zp, zq, zr, zs⟩) := hO.put8 0 u hu za zb zc zd zp zq zr zs
  have h2 : ROwn RIv 27 w.heap.size ((((((((((((((((W.setCell ⟨g, 0, none⟩ (.int .i64 za)).setCell ⟨g, 1, none⟩ (.int .i64 zb)).setCell ⟨g, 2, none⟩ (.int .i64 zc)).setCell ⟨g, 3, none⟩ (.int .i64 zd)).setCell ⟨g, 4, none⟩ (.bool zp)).setCell ⟨g, 5, none⟩ (.bool zq)).setCell ⟨g, 6, none⟩ (.bool zr)).setCell ⟨g, 7, none⟩ (.bool zs)).setCell ⟨g, 0, none⟩ (.int .i64 ya)).setCell ⟨g, 1, none⟩ (.int .i64 yb)).setCell ⟨g, 2, none⟩ (.int .i64 yc)).setCell ⟨g, 3, none⟩ (.int .i64 yd)).setCell ⟨g, 4, none⟩ (.bool yp)).setCell ⟨g, 5, none⟩ (.bool yq)).setCell ⟨g, 6, none⟩ (.bool yr)).setCell ⟨g, 7, none⟩ (.bool ys)) (.slice (some ⟨g, 0, none⟩) n c) ((L.set 0 ⟨za, zb, zc, zd, zp, zq, zr, zs⟩).set 0 ⟨ya, yb, yc, yd, yp, yq, yr, ys⟩) := h1.put8 0 _ (List.getElem?_eq_getElem (by rw [List.length_set]; exact hi)) ya yb yc yd yp yq yr ys
  refine ⟨_, _, _, _, ?_, wf_set (wf_set hwf 0 hzw) 0 hyw, rfl, h2.below (Below.drew (Below.refl _ _)), Below.drew ?_⟩
  · rw [List.length_set, List.length_set]; omega
  · exact Below.setCell (Below.setCell (Below.setCell (Below.setCell (Below.setCell (Below.setCell (Below.setCell (Below.setCell (Below.setCell (Below.setCell (Below.setCell (Below.setCell (Below.setCell (Below.setCell (Below.setCell (Below.setCell hB hg _) hg _) hg _) hg _) hg _) hg _) hg _) hg _) hg _) hg _) hg _) hg _) hg _) hg _) hg _) hg _

set_option maxHeartbeats 16000000 in
set_option maxRecDepth 100000 in
theorem spoilt_any (sv : Value) (L : List Iv) (at' by' : Int) (w : World) (h : REls RIv w sv L) (hwf : ∀ x ∈ L, x.wf) (hl : L.length ≤ 100000) (ha : (Lit.int .i64 at').wf = true) (hb : (Lit.int .i64 by').wf = true) :
    Calls Try.prog 13 #[sv, .int .i64 at', .int .i64 by'] w (SpoOut L w) := by
  have hbi : I64 by' := by
    have : -9223372036854775808 ≤ by' ∧ by' ≤ 9223372036854775807 := by simpa [Lit.wf, IntKind.min, IntKind.max, IntKind.signed, IntKind.bits] using hb
    exact ⟨this.1, this.2⟩
  have hz : I64 0 := ⟨by decide, by decide⟩
  have ho : I64 1 := ⟨by decide, by decide⟩
  have HWF := Lib.hid hwf
  have HBI := Lib.hid hbi
  obtain ⟨a0, c0, rfl⟩ := h.shape
  by_cases h0 : L = []
  · subst h0
    have hl1 : ([] : List Iv).length + 1 ≤ 1000000000 := by simp
    have hE : (a0 = none ∧ c0 = 0) ∨ ∃ x, a0 = some x := by
      rcases h with ⟨he | ⟨x, c, he⟩, _⟩ | ⟨b, c, _, he, _⟩
      · cases he; exact .inl ⟨rfl, rfl⟩
      · cases he; exact .inr ⟨_, rfl⟩
      · cases he; exact .inr ⟨_, rfl⟩
    have HO : Hid (ROwn RIv 27 w.heap.size w (.slice none 0 0) []) := Lib.hid (ROwn.nil _ _ _ _)
    have HWY : Hid (Iv.wf ⟨by', 1, 0, 0, false, false, false, true⟩) := Lib.hid ⟨hbi, ho, hz, hz⟩
    clear hwf hbi ha hb h hl hz ho HWF
    rcases hE with ⟨rfl, rfl⟩ | ⟨x, rfl⟩
    all_goals
      go_enter Try.func13, Try.ntmps13
      go_wp2_with (at_builtin; refine push_row rfl _ _ _ rfl RIv 27 40 _ Try.underlying23 Try.infoIv rfl (by decide) w.heap.size (.slice none 0 0) [] [⟨by', 1, 0, 0, false, false, false, true⟩] _ _ rfl rfl _ 1 rfl rfl rfl HO.out (Nat.le_refl _) hl1 ?_; intro an nn cn wn hnn hOn hBn)
      go_wp2
      go_ret
      exact ⟨_, an, nn, cn, by simp, fun x hx => by rw [List.mem_singleton.1 hx]; exact HWY.out, rfl, hOn, hBn⟩
  · have hpos : 0 < L.length := List.length_pos_iff.2 h0
    obtain ⟨b0, rfl, -⟩ := h.get hpos
    have HL0 : Hid (([] : List Iv).length + L.length ≤ 1000000000) := Lib.hid (by simp; omega)
    have HFL := Lib.hid h.flat
    obtain ⟨q, hq⟩ : ∃ q, q = IntKind.i64.wrap (at'.tdiv 10) := ⟨_, rfl⟩
    have hqw : (Lit.int .i64 q).wf = true := by rw [hq, IntWalk.i64_left]; exact wrap64_wf _
    obtain ⟨k, hk⟩ : ∃ k : Nat, aroundI at' 10 = (k : Int) := ⟨(aroundI at' 10).toNat, by have := aroundI_range at' 10 (by decide); omega⟩
    obtain ⟨i, hi⟩ : ∃ i : Nat, aroundI q (L.length : Int) = (i : Int) := ⟨(aroundI q (L.length : Int)).toNat, by have := aroundI_range q (L.length : Int) (by omega); omega⟩
    have hk10 : k < 10 := by have := aroundI_range at' 10 (by decide); omega
    have hin : i < L.length := by have := aroundI_range q (L.length : Int) (by omega); omega
    have K1 := Lib.hid fun W => around_any q (L.length : Int) W (by omega) (by omega) hqw
    have K2 := Lib.hid fun W => around_any at' 10 W (by decide) (by decide) ha
    rw [hi] at K1
    rw [hk] at K2
    have HLL := Lib.hid hl
    have hLi : 0 < (L.length : Int) := by omega
    obtain ⟨x, hx⟩ : ∃ x, L[i]? = some x := ⟨_, List.getElem?_eq_getElem hin⟩
    have HX := Lib.hid hx
    have hq' := hq.symm
    have HKT := Lib.hid hk10
    have HXW := Lib.hid (hwf x (List.mem_of_getElem? hx))
    clear hwf hbi ha hb h hl hz ho hq hk hi hqw hk10 hx h0
    generalize hnn : L.length = n at *
    have HN := Lib.hid hnn
    clear hnn
    go_enter Try.func13, Try.ntmps13
    go_wp2_with (at_builtin; refine push_rows rfl _ _ 23 rfl RIv 27 40 _ Try.underlying23 Try.infoIv rfl (by decide) w.heap.size (.slice none 0 0) [] L rfl b0 0 n c0 HN.out.symm rfl (ROwn.nil _ _ _ _) (Nat.le_refl _) HL0.out HFL.out ?_; intro an nn cn wn hnn hOn hBn; have enn : nn = n := (hnn.out).trans (Nat.zero_add n); clear hnn; subst nn)
    have hO := hOn.out
    rw [List.nil_append] at hO
    obtain ⟨g, rfl, hg⟩ := hO.head hpos
    have HO := Lib.hid hO
    have HG := Lib.hid hg
    clear hOn hO hg
    refine (K1.out _).mono ?_
    rintro e w2 ⟨rfl, rfl⟩
    go_wp2_with fail
    refine (K2.out _).mono ?_
    rintro e w2 ⟨rfl, rfl⟩
    have hcase : k = 0 ∨ k = 1 ∨ k = 2 ∨ k = 3 ∨ k = 4 ∨ k = 5 ∨ k = 6 ∨ k = 7 ∨ k = 8 ∨ k = 9 := by have := HKT.out; omega
    have hiI : (i : Int) < (n : Int) := by omega
    obtain ⟨c0', c1, c2, c3, c4, c5, c6, c7, c8⟩ := iv_at HO.out.els HX.out
    have f0 := HO.out.free (i * 8)
    have f1 := HO.out.free (i * 8 + 1)
    have f2 := HO.out.free (i * 8 + 2)
    have f3 := HO.out.free (i * 8 + 3)
    have f4 := HO.out.free (i * 8 + 4)
    have f5 := HO.out.free (i * 8 + 5)
    have f6 := HO.out.free (i * 8 + 6)
    have f7 := HO.out.free (i * 8 + 7)
    obtain ⟨xa, xb, xc, xd, xp, xq, xr, xs⟩ := x
    simp only at c0' c1 c2 c3 c4 c5 c6 c7
    rcases hcase with rfl | rfl | rfl | rfl | rfl | rfl | rfl | rfl | rfl | rfl
    · go_wp2
      go_ret
      exact spo_end (i := 0) ⟨by', xb, xc, xd, xp, xq, xr, xs⟩ (.int .i64 by') HO.out hBn.out HG.out HWF.out HX.out (by decide) rfl ⟨HBI.out, HXW.out.2.1, HXW.out.2.2.1, HXW.out.2.2.2⟩
    · go_wp2
      go_ret
      exact spo_end (i := 1) ⟨xa, by', xc, xd, xp, xq, xr, xs⟩ (.int .i64 by') HO.out hBn.out HG.out HWF.out HX.out (by decide) rfl ⟨HXW.out.1, HBI.out, HXW.out.2.2.1, HXW.out.2.2.2⟩
    · go_wp2
      go_ret
      exact spo_end (i := 2) ⟨xa, xb, by', xd, xp, xq, xr, xs⟩ (.int .i64 by') HO.out hBn.out HG.out HWF.out HX.out (by decide) rfl ⟨HXW.out.1, HXW.out.2.1, HBI.out, HXW.out.2.2.2⟩
    · go_wp2
      go_ret
      exact spo_end (i := 3) ⟨xa, xb, xc, by', xp, xq, xr, xs⟩ (.int .i64 by') HO.out hBn.out HG.out HWF.out HX.out (by decide) rfl ⟨HXW.out.1, HXW.out.2.1, HXW.out.2.2.1, HBI.out⟩
    · go_wp2
      go_ret
      exact spo_end (i := 4) ⟨xa, xb, xc, xd, (!xp), xq, xr, xs⟩ (.bool !xp) HO.out hBn.out HG.out HWF.out HX.out (by decide) rfl HXW.out
    · go_wp2
      go_ret
      exact spo_end (i := 5) ⟨xa, xb, xc, xd, xp, (!xq), xr, xs⟩ (.bool !xq) HO.out hBn.out HG.out HWF.out HX.out (by decide) rfl HXW.out
    · go_wp2
      go_ret
      exact spo_end (i := 6) ⟨xa, xb, xc, xd, xp, xq, (!xr), xs⟩ (.bool !xr) HO.out hBn.out HG.out HWF.out HX.out (by decide) rfl HXW.out
    · go_wp2
      go_ret
      exact spo_end (i := 7) ⟨xa, xb, xc, xd, xp, xq, xr, (!xs)⟩ (.bool !xs) HO.out hBn.out HG.out HWF.out HX.out (by decide) rfl HXW.out
    · have hl1 : L.length + 1 ≤ 1000000000 := by have h1 := HN.out; have h2 := HLL.out; omega
      go_wp2_with (at_builtin; refine push_row rfl _ _ _ rfl RIv 27 40 _ Try.underlying23 Try.infoIv rfl (by decide) w.heap.size (.slice (some ⟨g, 0, none⟩) n cn) L [⟨xa, xb, xc, xd, xp, xq, xr, xs⟩] _ _ rfl rfl _ 1 rfl rfl rfl HO.out hBn.out.size hl1 ?_; intro a5 n5 c5 w5 hn5 hO5 hB5)
      go_wp2
      go_ret
      exact ⟨_, a5, n5, c5, by simp, fun y hy => (List.mem_append.1 hy).elim (fun h => HWF.out y h) (fun h => by rw [List.mem_singleton.1 h]; exact HXW.out), rfl, hO5, Lib.hid (hBn.out.trans hB5.out)⟩
    · obtain ⟨y, hy⟩ : ∃ y, L[0]? = some y := ⟨_, List.getElem?_eq_getElem (by rw [HN.out]; exact hpos)⟩
      have HY := Lib.hid hy
      have HYW := Lib.hid (HWF.out y (List.mem_of_getElem? hy))
      obtain ⟨d0, d1, d2, d3, d4, d5, d6, d7, -⟩ := iv_at HO.out.els HY.out
      have e0 := HO.out.free 0
      have e1 := HO.out.free 1
      have e2 := HO.out.free 2
      have e3 := HO.out.free 3
      have e4 := HO.out.free 4
      have e5 := HO.out.free 5
      have e6 := HO.out.free 6
      have e7 := HO.out.free 7
      obtain ⟨ya, yb, yc, yd, yp, yq, yr, ys⟩ := y
      simp only [Nat.zero_mul, Nat.zero_add] at d0 d1 d2 d3 d4 d5 d6 d7
      clear hy
      have HBn := Lib.hid hBn.out
      clear hBn
      by_cases hne : i = 0
      · subst hne
        simp only [Nat.zero_mul, Nat.zero_add] at c0' c1 c2 c3 c4 c5 c6 c7 f0 f1 f2 f3 f4 f5 f6 f7
        go_upto_region 7 with (fail)
        go_region
        go_wp2
        go_ret
        exact spo_swap0 (za := ya) (zb := yb) (zc := yc) (zd := yd) (zp := yp) (zq := yq) (zr := yr) (zs := ys) (ya := ya) (yb := yb) (yc := yc) (yd := yd) (yp := yp) (yq := yq) (yr := yr) (ys := ys) HO.out HBn.out HG.out HWF.out ⟨_, HY.out⟩ HYW.out HYW.out
      · have hn1 : ¬ (0 = i * 8) := by omega
        have hn2 : ¬ (i * 8 = 0) := by omega
        go_upto_region 7 with (fail)
        go_region
        go_wp2
        go_ret
        exact spo_swap (i := i) (za := xa) (zb := xb) (zc := xc) (zd := xd) (zp := xp) (zq := xq) (zr := xr) (zs := xs) (ya := ya) (yb := yb) (yc := yc) (yd := yd) (yp := yp) (yq := yq) (yr := yr) (ys := ys) HO.out HBn.out HG.out HWF.out ⟨_, HX.out⟩ ⟨_, HY.out⟩ HXW.out HYW.out

end Go.Proofs.Ytimbgjpjgbjnkaa

