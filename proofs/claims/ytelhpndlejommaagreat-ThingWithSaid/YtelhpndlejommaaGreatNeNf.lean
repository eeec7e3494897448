import Derived.Test.YtelhpndlejommaaGreatNd
import Derived.Test.YtelhpndlejommaaGreatCaCc
import Derived.Test.YtelhpndlejommaaGreatYi
import Derived.Test.YtelhpndlejommaaGreatCe
/- The reference's value: a value put into a list that increases by attributes. -/
namespace Go.Proofs.YtelhpndlejommaaGreat
open Go.RowKit Go.Shelf

theorem RFl.since {α : Type} {R : RowOf α} {w w' : World} {sv : Value} {ns : List α} (h : RFl R w sv ns) (hs : Since w w') : RFl R w' sv ns := by
  rcases h with h | ⟨b, off, cap, e, hc⟩
  · exact .inl h
  · exact .inr ⟨b, off, cap, e, fun j u hu => Since.cell hs (hc j u hu)⟩

/-- The beginning of a row. -/
theorem rfl_take {α : Type} {R : RowOf α} {w : World} {b n c : Nat} {xs : List α} (h : REls R w (.slice (some ⟨b, 0, none⟩) n c) xs) (k : Nat) (hk : k ≤ n) : RFl R w (.slice (some ⟨b, 0, none⟩) k c) (xs.take k) := by
  have hf := h.flat
  have hn := h.len
  refine .inr ⟨b, 0, c, by rw [List.length_take]; congr 1; omega, fun j u hu => ?_⟩
  refine hf j u ?_
  have e : xs.flatMap R.cells = (xs.take k).flatMap R.cells ++ (xs.drop k).flatMap R.cells := by rw [← List.flatMap_append, List.take_append_drop]
  rw [e, List.getElem?_append_left (List.getElem?_eq_some_iff.1 hu).1]
  exact hu

/-- The rest of a row. -/
theorem rfl_drop {α : Type} {R : RowOf α} {w : World} {b n c : Nat} {xs : List α} (h : REls R w (.slice (some ⟨b, 0, none⟩) n c) xs) (k : Nat) (hk : k ≤ n) : RFl R w (.slice (some ⟨b, k * R.k, none⟩) (n - k) (c - k)) (xs.drop k) := by
  have hf := h.flat
  have hn := h.len
  refine .inr ⟨b, k * R.k, c - k, by rw [List.length_drop, hn], fun j u hu => ?_⟩
  have e : xs.flatMap R.cells = (xs.take k).flatMap R.cells ++ (xs.drop k).flatMap R.cells := by rw [← List.flatMap_append, List.take_append_drop]
  have hl : ((xs.take k).flatMap R.cells).length = k * R.k := by rw [R.flat, List.length_take, Nat.min_eq_left (by omega)]
  have := hf (k * R.k + j) u (by rw [e, List.getElem?_append_right (by omega), hl, Nat.add_sub_cancel_left]; exact hu)
  rwa [Nat.zero_add] at this

theorem rfl_nil {α : Type} {R : RowOf α} {w : World} {sv : Value} {xs : List α} (he : Emp sv) (hx : xs = []) : RFl R w sv xs := .inl ⟨he, hx⟩

/-- What the three appends leave. -/
theorem tail_own {α : Type} {R : RowOf α} {E : TypeId} {B : Nat} {w w2 w4 w5 : World} {sv v' : Value} {xs l : List α} {k : Nat} {x : α} (hp : l = xs.take k ++ x :: xs.drop k) (hw : Below w.heap.size w w2) (h4 : Since w2 w4) (hO : ROwn R E w2.heap.size w5 v' ([] ++ xs.take k ++ [x] ++ xs.drop k)) (h5 : Below w2.heap.size w4 w5) (hB : B ≤ w.heap.size) :
    ROwn R E B w5 v' l ∧ PF sv w w5 v' ∧ Below w.heap.size w w5 := by
  have hb : Below w.heap.size w w5 := hw.trans ((Below.trans h4 h5).mono hw.size)
  refine ⟨?_, PF.fresh hb fun g e => ?_, hb⟩
  · rw [hp]
    have := hO.base (B' := B) (Nat.le_trans hB hw.size)
    simpa using this
  · have := (hO.lt g e).1
    have := hw.size
    omega

theorem valL_at (v : Va) : ∀ (k : Nat) (l : List Va), (∀ j x, j < k → l[j]? = some x → x.t < v.t) → k ≤ l.length → (∀ x, l[k]? = some x → v.t < x.t) → valL v l = some (l.take k ++ v :: l.drop k)
  | 0, [], _, _, _ => rfl
  | 0, y :: l, _, _, h => by
    have := h y rfl
    rw [valL, if_neg (by omega), if_neg (by omega)]; rfl
  | k + 1, [], _, hk, _ => by simp at hk
  | k + 1, y :: l, h1, hk, h2 => by
    have := h1 0 y (by omega) rfl
    rw [valL, if_pos this, valL_at v k l (fun j x hj hx => h1 (j + 1) x (by omega) (by simpa using hx)) (by simpa using hk) (fun x hx => h2 x (by simpa using hx))]
    rfl
theorem valL_there (v x : Va) (hx : x.t = v.t) : ∀ (k : Nat) (l : List Va), (∀ j x, j < k → l[j]? = some x → x.t < v.t) → l[k]? = some x → valL v l = if x = v then some l else none
  | 0, [], _, h => by cases h
  | 0, y :: l, _, h => by
    have : y = x := by simpa using h
    subst this
    rw [valL, if_neg (by omega), if_pos hx]
  | k + 1, [], _, h => by cases h
  | k + 1, y :: l, h1, h => by
    have := h1 0 y (by omega) rfl
    rw [valL, if_pos this, valL_there v x hx k l (fun j x hj hx => h1 (j + 1) x (by omega) (by simpa using hx)) (by simpa using h)]
    by_cases e : x = v
    · rw [if_pos e, if_pos e]; rfl
    · rw [if_neg e, if_neg e]; rfl

/-- What value leaves. -/
def ValOut (B : Nat) (sv : Value) (r : Option (List Va)) (w : World) (e : Ending) (w' : World) : Prop :=
  ∃ x n c, e = .returned (.tuple #[.slice x n c, .bool r.isSome]) ∧ Hid (Below w.heap.size w w') ∧ Hid (∀ l, r = some l → ROwn RVa 46 B w' (.slice x n c) l ∧ PF sv w w' (.slice x n c))

set_option maxHeartbeats 4000000 in
set_option maxRecDepth 100000 in
theorem value_any (sv : Value) (xs : List Va) (v : Va) (B : Nat) (w : World) (hO : ROwn RVa 46 B w sv xs) (h0 : xs = [] → sv = .slice none 0 0) (hB : B ≤ w.heap.size) (hl : xs.length ≤ 1000000) :
    Calls Tryz.prog 42 #[sv, v.v] w (ValOut B sv (valL v xs) w) := by
  obtain ⟨sv0, hsv0⟩ : ∃ s, s = sv := ⟨_, rfl⟩
  obtain ⟨a0, c0, rfl⟩ := hO.els.shape
  have HA := Lib.hid (valL_at v)
  have HT := Lib.hid (valL_there v)
  obtain ⟨vt, vn, vd⟩ := v
  unfold Va.v
  simp only at HA HT ⊢
  have HO := Lib.hid hO
  obtain ⟨m, hm⟩ : ∃ m, m = xs.length := ⟨_, rfl⟩
  have HM := Lib.hid hm
  have HSV := Lib.hid hsv0
  rw [← hm] at HO hl h0 HSV ⊢
  have HB := Lib.hid hB
  obtain ⟨W1, hW1⟩ : ∃ W1, W1 = (w.alloc (.cells #[.int .i64 vt, .int .i64 vn, .int .i64 vd] 46)) := ⟨_, rfl⟩
  have hX1 : BoxL w.heap.size [.int .i64 vt, .int .i64 vn, .int .i64 vd] W1 := by rw [hW1]; exact BoxL.made w _ _
  have hB1 : Below w.heap.size w W1 := by rw [hW1]; exact (Below.refl _ _).alloc (Nat.le_refl _) _
  have HX1 := Lib.hid hX1
  have HB1 := Lib.hid hB1
  have HE1 := Lib.hid (hO.els.below hB1)
  rw [← hm] at HE1
  have HS1 := Lib.hid (Since.refl W1)
  clear hO hm hX1 hB1 hsv0
  go_enter Tryz.func42, Tryz.ntmps42
  go_upto_region 1 with (fail)
  rw [← hW1]
  clear hW1
  go_wp2
  go_loopw [6] (fun x wr => ∃ k : Nat, k ≤ m ∧ x = .int .i64 k ∧ Hid (∀ j x, j < k → xs[j]? = some x → x.t < vt) ∧ Hid (Since W1 wr)) (fun x _ => m - (intOf x).toNat)
  case atStart => exact ⟨0, by omega, rfl, Lib.hid fun j x hj => by omega, HS1⟩
  case round =>
    clear HS1
    obtain ⟨k, hk, rfl, hlt, hS⟩ := hrel
    have HX := Lib.hid (HX1.out.keep hS.out)
    have HEw := Lib.hid (HE1.out.below hS.out)
    have HBw := Lib.hid (HB1.out.trans (Below.mono hS.out HB1.out.size))
    obtain ⟨x0, x1, x2, -⟩ := HX.out.open3
    by_cases hkm : k < m
    · have i1 : (k : Int) < m := by omega
      obtain ⟨z, hz⟩ : ∃ z, xs[k]? = some z := ⟨xs[k]'(by rw [← HM.out]; exact hkm), List.getElem?_eq_getElem _⟩
      obtain ⟨b, rfl, -, hcap, -⟩ := HEw.out.get hkm
      obtain ⟨p0, p1, p2, -⟩ := va_at HEw.out hz
      by_cases hzn : z.t < vt
      · have HZ : Hid (∀ j x, j < k + 1 → xs[j]? = some x → x.t < vt) := Lib.hid fun j x hj hx => by
          by_cases h : j < k
          · exact hlt.out j x h hx
          · have : j = k := by omega
            subst this
            rw [hz] at hx
            injection hx with hx
            subst hx
            exact hzn
        obtain ⟨zt, zn, zd⟩ := z
        simp only at p0 p1 p2 hzn
        clear hlt hz
        go_wp2_with fail
        go_quiet (fail)
        go_wp2
        go_roundw
        case rel => exact ⟨k + 1, by omega, by go_num, HZ, below_drewN hS.out _⟩
        case measure => simp [intOf]; omega
      · by_cases hze : z.t = vt
        · have hv := HT.out z hze k xs hlt.out hz
          obtain ⟨zt, zn, zd⟩ := z
          simp only at p0 p1 p2 hze
          subst hze
          have e3 : ¬ zt < zt := by omega
          clear hlt hz hzn HA HT
          rename World => wo
          go_wp2_with fail
          go_quiet (fail)
          go_wp2_with fail
          have hSn : Since wo (wo.drewN nq) := below_drewN (Below.refl _ _) nq
          have q0 := Since.cell hSn p0
          have q1 := Since.cell hSn p1
          have q2 := Since.cell hSn p2
          have r0 := Since.cell hSn x0
          have r1 := Since.cell hSn x1
          have r2 := Since.cell hSn x2
          have HSn := Lib.hid hSn
          generalize wo.drewN nq = wq at *
          clear p0 p1 p2 x0 x1 x2 hSn
          go_quiet (fail)
          go_wp2_with fail
          have hSn : Since wq (wq.drewN nq) := below_drewN (Below.refl _ _) nq
          have p0 := Since.cell hSn q0
          have p1 := Since.cell hSn q1
          have p2 := Since.cell hSn q2
          have x0 := Since.cell hSn r0
          have x1 := Since.cell hSn r1
          have x2 := Since.cell hSn r2
          have HSm := Lib.hid (Since.step HSn.out hSn)
          generalize wq.drewN nq = wt at *
          clear q0 q1 q2 r0 r1 r2 hSn
          have HBm := Lib.hid (HBw.out.trans (Below.mono HSm.out HBw.out.size))
          by_cases h1 : zn = vn
          · by_cases h2 : zd = vd
            · subst h1
              subst h2
              rw [if_pos rfl] at hv
              have HV := Lib.hid hv
              clear hv
              go_quiet (fail)
              go_wp2
              have hfb := below_drewN HBm.out nq
              refine bodyPost_ret (v := .tuple #[.slice (some ⟨b, 0, none⟩) m c0, .bool true]) (by simp [results, Tryz.results42, go_sem]) rfl ?_
              rw [HV.out]
              refine ⟨_, _, _, rfl, Lib.hid hfb, Lib.hid fun l hl => ?_⟩
              cases hl
              exact ⟨HO.out.below hfb, ⟨⟨hfb.size, fun b _ hl => hfb.block b hl⟩, fun _ h => .inl h⟩⟩
            · have h3 : (zd == vd) = false := by simpa using h2
              subst h1
              rw [if_neg (fun h => h2 (by injection h))] at hv
              have HV := Lib.hid hv
              clear hv h2
              go_quiet (fail)
              go_wp2
              refine bodyPost_ret (v := .tuple #[.slice (some ⟨b, 0, none⟩) m c0, .bool false]) (by simp [results, Tryz.results42, go_sem]) rfl ?_
              rw [HV.out]
              exact ⟨_, _, _, rfl, Lib.hid (below_drewN HBm.out nq), Lib.hid fun l hl => by cases hl⟩
          · have h3 : (zn == vn) = false := by simpa using h1
            rw [if_neg (fun h => h1 (by injection h))] at hv
            have HV := Lib.hid hv
            clear hv h1
            go_quiet (fail)
            go_wp2
            refine bodyPost_ret (v := .tuple #[.slice (some ⟨b, 0, none⟩) m c0, .bool false]) (by simp [results, Tryz.results42, go_sem]) rfl ?_
            rw [HV.out]
            exact ⟨_, _, _, rfl, Lib.hid (below_drewN HBm.out nq), Lib.hid fun l hl => by cases hl⟩
        · have HP0 := Lib.hid (HA.out k xs hlt.out (by rw [← HM.out]; omega) (fun x hx => by rw [hz] at hx; injection hx with hx; subst hx; omega))
          obtain ⟨zt, zn, zd⟩ := z
          simp only at p0 p1 p2 hzn hze
          have e0 : (zt == vt) = false := by simpa using hze
          have e1 : (0 : Int) ≤ (k : Int) := by omega
          have e2 : (k : Int) ≤ (c0 : Int) := by omega
          have e3 : ((k : Int)).toNat = k := by omega
          have e4 : k ≤ c0 := by omega
          have e5 : (k : Int) ≤ (m : Int) := by omega
          clear hlt hz HA HT h0
          rename World => wo
          go_wp2_with fail
          go_quiet (fail)
          go_wp2_with fail
          have hSn : Since wo (wo.drewN nq) := below_drewN (Below.refl _ _) nq
          have q0 := Since.cell hSn p0
          have q1 := Since.cell hSn p1
          have q2 := Since.cell hSn p2
          have r0 := Since.cell hSn x0
          have r1 := Since.cell hSn x1
          have r2 := Since.cell hSn x2
          have HSn := Lib.hid hSn
          generalize wo.drewN nq = wq at *
          clear p0 p1 p2 x0 x1 x2 hSn
          go_quiet (fail)
          go_upto_region 7 with (fail)
          have hSn : Since wq (wq.drewN nq) := below_drewN (Below.refl _ _) nq
          have x0 := Since.cell hSn r0
          have x1 := Since.cell hSn r1
          have x2 := Since.cell hSn r2
          have HSm := Lib.hid (Since.step HSn.out hSn)
          generalize wq.drewN nq = w2 at *
          clear q0 q1 q2 r0 r1 r2 hSn
          have HX := Lib.hid (HX.out.keep HSm.out)
          have HEw := Lib.hid (HEw.out.below HSm.out)
          have HBw := Lib.hid (HBw.out.trans (Below.mono HSm.out HBw.out.size))
          have HTK0 := rfl_take HEw.out k (by omega)
          have HDR0 := rfl_drop HEw.out k (by omega)
          have HTK : Hid (RFl RVa w2 (.slice (some ⟨b, 0, none⟩) k c0) (xs.take k)) := Lib.hid HTK0
          have HDR : Hid (RFl RVa w2 (.slice (some ⟨b, k * 3, none⟩) (m - k) (c0 - k)) (xs.drop k)) := Lib.hid HDR0
          clear HTK0 HDR0
          have hl1 : ([] : List Va).length + (xs.take k).length ≤ 1000000000 := by have := HM.out; rw [List.length_take]; simp only [List.length_nil]; omega
          have hl2 : ([] ++ xs.take k).length + 1 ≤ 1000000000 := by have := HM.out; rw [List.length_append, List.length_take]; simp only [List.length_nil]; omega
          have hl3 : ([] ++ xs.take k ++ [(⟨vt, vn, vd⟩ : Va)]).length + (xs.drop k).length ≤ 1000000000 := by have := HM.out; rw [List.length_append, List.length_append, List.length_take, List.length_drop]; simp only [List.length_nil, List.length_singleton]; omega
          go_wp2_with (at_builtin; first | (refine push_rows_f rfl _ _ 25 rfl RVa 46 24 _ Tryz.underlying25 Tryz.infoVal rfl (by decide) w2.heap.size (.slice none 0 0) [] (xs.take k) (.slice (some ⟨b, 0, none⟩) k c0) rfl rfl (ROwn.nil _ _ _ _) HTK.out (Nat.le_refl _) hl1 ?_; intro a1 n1 c1 w3 hn1 hO1 hB1 hP1; obtain ⟨y0, y1, y2, -⟩ := (HX.out.keep hB1.out).open3) | (refine push_row_f rfl _ _ 25 rfl RVa 46 24 _ Tryz.underlying25 Tryz.infoVal rfl (by decide) w2.heap.size (.slice a1 n1 c1) ([] ++ xs.take k) [(⟨vt, vn, vd⟩ : Va)] _ _ rfl rfl _ 1 rfl rfl rfl hO1.out hB1.out.size hl2 ?_; intro a2 n2 c2 w4 hn2 hO2 hB2 hP2; have HS4 : Hid (Since w2 w4) := Lib.hid (Below.trans hB1.out hB2.out)) | (refine push_rows_f rfl _ _ 25 rfl RVa 46 24 _ Tryz.underlying25 Tryz.infoVal rfl (by decide) w2.heap.size (.slice a2 n2 c2) ([] ++ xs.take k ++ [(⟨vt, vn, vd⟩ : Va)]) (xs.drop k) (.slice (some ⟨b, k * 3, none⟩) (m - k) (c0 - k)) rfl rfl hO2.out (HDR.out.since HS4.out) (Below.size HS4.out) hl3 ?_; intro a3 n3 c3 w5 hn3 hO3 hB3 hP3))
          have HF := Lib.hid (tail_own (l := xs.take k ++ (⟨vt, vn, vd⟩ : Va) :: xs.drop k) rfl HBw.out HS4.out hO3.out hB3.out HB.out (sv := sv0))
          refine bodyPost_ret (v := .tuple #[.slice a3 n3 c3, .bool true]) (by simp [results, Tryz.results42, go_sem]) rfl ?_
          rw [HP0.out]
          exact ⟨_, _, _, rfl, Lib.hid HF.out.2.2, Lib.hid fun l hl => by cases hl; rw [← HSV.out]; exact ⟨HF.out.1, HF.out.2.1⟩⟩
    · have i1 : ¬ (k : Int) < m := by omega
      have hp := HA.out k xs hlt.out (by rw [← HM.out]; omega) (fun x hx => by have := (List.getElem?_eq_some_iff.1 hx).1; have := HM.out; omega)
      have hkm2 : k = m := by omega
      subst hkm2
      have HP0 := Lib.hid hp
      clear hp hlt HA HT
      rename World => wo
      have e1 : (0 : Int) ≤ (k : Int) := by omega
      have e3 : ((k : Int)).toNat = k := by omega
      have e5 : (k : Int) ≤ (k : Int) := by omega
      by_cases hm0 : k = 0
      · subst hm0
        have hzs : xs = [] := List.eq_nil_of_length_eq_zero HM.out.symm
        have h1 := h0 hzs
        injection h1 with h1 h2 h3
        subst h1
        subst h3
        have HZS := Lib.hid hzs
        clear hzs h0
        have e2 : (0 : Int) ≤ ((0 : Nat) : Int) := by omega
        go_wp2_with fail
        go_quiet (fail)
        go_wp2_with fail
        have hSn : Since wo (wo.drewN nq) := below_drewN (Below.refl _ _) nq
        have r0 := Since.cell hSn x0
        have r1 := Since.cell hSn x1
        have r2 := Since.cell hSn x2
        have HSn := Lib.hid hSn
        generalize wo.drewN nq = wq at *
        clear x0 x1 x2 hSn
        go_quiet (fail)
        go_upto_region 7 with (fail)
        have hSn : Since wq (wq.drewN nq) := below_drewN (Below.refl _ _) nq
        have x0 := Since.cell hSn r0
        have x1 := Since.cell hSn r1
        have x2 := Since.cell hSn r2
        have HSm := Lib.hid (Since.step HSn.out hSn)
        generalize wq.drewN nq = w2 at *
        clear r0 r1 r2 hSn
        have HX := Lib.hid (HX.out.keep HSm.out)
        have HEw := Lib.hid (HEw.out.below HSm.out)
        have HBw := Lib.hid (HBw.out.trans (Below.mono HSm.out HBw.out.size))
        have HTK0 := (rfl_nil (R := RVa) (w := w2) (xs := xs.take 0) (.inl rfl : Emp (.slice none 0 0)) rfl)
        have HDR0 := (rfl_nil (R := RVa) (w := w2) (xs := xs.drop 0) (.inl rfl : Emp (.slice none 0 0)) (by rw [HZS.out]; rfl))
        have HTK : Hid (RFl RVa w2 (.slice none 0 0) (xs.take 0)) := Lib.hid HTK0
        have HDR : Hid (RFl RVa w2 (.slice none 0 0) (xs.drop 0)) := Lib.hid HDR0
        clear HTK0 HDR0
        have hl1 : ([] : List Va).length + (xs.take 0).length ≤ 1000000000 := by have := HM.out; rw [List.length_take]; simp only [List.length_nil]; omega
        have hl2 : ([] ++ xs.take 0).length + 1 ≤ 1000000000 := by have := HM.out; rw [List.length_append, List.length_take]; simp only [List.length_nil]; omega
        have hl3 : ([] ++ xs.take 0 ++ [(⟨vt, vn, vd⟩ : Va)]).length + (xs.drop 0).length ≤ 1000000000 := by have := HM.out; rw [List.length_append, List.length_append, List.length_take, List.length_drop]; simp only [List.length_nil, List.length_singleton]; omega
        go_wp2_with (at_builtin; first | (refine push_rows_f rfl _ _ 25 rfl RVa 46 24 _ Tryz.underlying25 Tryz.infoVal rfl (by decide) w2.heap.size (.slice none 0 0) [] (xs.take 0) (.slice none 0 0) rfl rfl (ROwn.nil _ _ _ _) HTK.out (Nat.le_refl _) hl1 ?_; intro a1 n1 c1 w3 hn1 hO1 hB1 hP1; obtain ⟨y0, y1, y2, -⟩ := (HX.out.keep hB1.out).open3) | (refine push_row_f rfl _ _ 25 rfl RVa 46 24 _ Tryz.underlying25 Tryz.infoVal rfl (by decide) w2.heap.size (.slice a1 n1 c1) ([] ++ xs.take 0) [(⟨vt, vn, vd⟩ : Va)] _ _ rfl rfl _ 1 rfl rfl rfl hO1.out hB1.out.size hl2 ?_; intro a2 n2 c2 w4 hn2 hO2 hB2 hP2; have HS4 : Hid (Since w2 w4) := Lib.hid (Below.trans hB1.out hB2.out)) | (refine push_rows_f rfl _ _ 25 rfl RVa 46 24 _ Tryz.underlying25 Tryz.infoVal rfl (by decide) w2.heap.size (.slice a2 n2 c2) ([] ++ xs.take 0 ++ [(⟨vt, vn, vd⟩ : Va)]) (xs.drop 0) (.slice none 0 0) rfl rfl hO2.out (HDR.out.since HS4.out) (Below.size HS4.out) hl3 ?_; intro a3 n3 c3 w5 hn3 hO3 hB3 hP3))
        have HF := Lib.hid (tail_own (l := xs.take 0 ++ (⟨vt, vn, vd⟩ : Va) :: xs.drop 0) rfl HBw.out HS4.out hO3.out hB3.out HB.out (sv := sv0))
        refine bodyPost_ret (v := .tuple #[.slice a3 n3 c3, .bool true]) (by simp [results, Tryz.results42, go_sem]) rfl ?_
        rw [HP0.out]
        exact ⟨_, _, _, rfl, Lib.hid HF.out.2.2, Lib.hid fun l hl => by cases hl; rw [← HSV.out]; exact ⟨HF.out.1, HF.out.2.1⟩⟩
      · obtain ⟨b, rfl, -, hcap, -⟩ := HEw.out.get (j := 0) (by omega)
        by_cases hce : c0 = k
        · have hce2 := hce.symm
          subst hce2
          have e4 : k ≤ k := by omega
          clear h0
          go_wp2_with fail
          go_quiet (fail)
          go_wp2_with fail
          have hSn : Since wo (wo.drewN nq) := below_drewN (Below.refl _ _) nq
          have r0 := Since.cell hSn x0
          have r1 := Since.cell hSn x1
          have r2 := Since.cell hSn x2
          have HSn := Lib.hid hSn
          generalize wo.drewN nq = wq at *
          clear x0 x1 x2 hSn
          go_quiet (fail)
          go_upto_region 7 with (fail)
          have hSn : Since wq (wq.drewN nq) := below_drewN (Below.refl _ _) nq
          have x0 := Since.cell hSn r0
          have x1 := Since.cell hSn r1
          have x2 := Since.cell hSn r2
          have HSm := Lib.hid (Since.step HSn.out hSn)
          generalize wq.drewN nq = w2 at *
          clear r0 r1 r2 hSn
          have HX := Lib.hid (HX.out.keep HSm.out)
          have HEw := Lib.hid (HEw.out.below HSm.out)
          have HBw := Lib.hid (HBw.out.trans (Below.mono HSm.out HBw.out.size))
          have HTK0 := rfl_take HEw.out k (by omega)
          have HDR0 := (rfl_nil (R := RVa) (w := w2) (xs := xs.drop k) (.inr ⟨_, _, rfl⟩ : Emp (.slice (some ⟨b, 0, none⟩) 0 0)) (List.drop_of_length_le (by rw [← HM.out]; exact Nat.le_refl _)))
          have HTK : Hid (RFl RVa w2 (.slice (some ⟨b, 0, none⟩) k k) (xs.take k)) := Lib.hid HTK0
          have HDR : Hid (RFl RVa w2 (.slice (some ⟨b, 0, none⟩) 0 0) (xs.drop k)) := Lib.hid HDR0
          clear HTK0 HDR0
          have hl1 : ([] : List Va).length + (xs.take k).length ≤ 1000000000 := by have := HM.out; rw [List.length_take]; simp only [List.length_nil]; omega
          have hl2 : ([] ++ xs.take k).length + 1 ≤ 1000000000 := by have := HM.out; rw [List.length_append, List.length_take]; simp only [List.length_nil]; omega
          have hl3 : ([] ++ xs.take k ++ [(⟨vt, vn, vd⟩ : Va)]).length + (xs.drop k).length ≤ 1000000000 := by have := HM.out; rw [List.length_append, List.length_append, List.length_take, List.length_drop]; simp only [List.length_nil, List.length_singleton]; omega
          go_wp2_with (at_builtin; first | (refine push_rows_f rfl _ _ 25 rfl RVa 46 24 _ Tryz.underlying25 Tryz.infoVal rfl (by decide) w2.heap.size (.slice none 0 0) [] (xs.take k) (.slice (some ⟨b, 0, none⟩) k k) rfl rfl (ROwn.nil _ _ _ _) HTK.out (Nat.le_refl _) hl1 ?_; intro a1 n1 c1 w3 hn1 hO1 hB1 hP1; obtain ⟨y0, y1, y2, -⟩ := (HX.out.keep hB1.out).open3) | (refine push_row_f rfl _ _ 25 rfl RVa 46 24 _ Tryz.underlying25 Tryz.infoVal rfl (by decide) w2.heap.size (.slice a1 n1 c1) ([] ++ xs.take k) [(⟨vt, vn, vd⟩ : Va)] _ _ rfl rfl _ 1 rfl rfl rfl hO1.out hB1.out.size hl2 ?_; intro a2 n2 c2 w4 hn2 hO2 hB2 hP2; have HS4 : Hid (Since w2 w4) := Lib.hid (Below.trans hB1.out hB2.out)) | (refine push_rows_f rfl _ _ 25 rfl RVa 46 24 _ Tryz.underlying25 Tryz.infoVal rfl (by decide) w2.heap.size (.slice a2 n2 c2) ([] ++ xs.take k ++ [(⟨vt, vn, vd⟩ : Va)]) (xs.drop k) (.slice (some ⟨b, 0, none⟩) 0 0) rfl rfl hO2.out (HDR.out.since HS4.out) (Below.size HS4.out) hl3 ?_; intro a3 n3 c3 w5 hn3 hO3 hB3 hP3))
          have HF := Lib.hid (tail_own (l := xs.take k ++ (⟨vt, vn, vd⟩ : Va) :: xs.drop k) rfl HBw.out HS4.out hO3.out hB3.out HB.out (sv := sv0))
          refine bodyPost_ret (v := .tuple #[.slice a3 n3 c3, .bool true]) (by simp [results, Tryz.results42, go_sem]) rfl ?_
          rw [HP0.out]
          exact ⟨_, _, _, rfl, Lib.hid HF.out.2.2, Lib.hid fun l hl => by cases hl; rw [← HSV.out]; exact ⟨HF.out.1, HF.out.2.1⟩⟩
        · have hck : ¬ c0 = k := hce
          have e2 : (k : Int) ≤ (c0 : Int) := by omega
          have e4 : k ≤ c0 := by omega
          clear h0
          go_wp2_with fail
          go_quiet (fail)
          go_wp2_with fail
          have hSn : Since wo (wo.drewN nq) := below_drewN (Below.refl _ _) nq
          have r0 := Since.cell hSn x0
          have r1 := Since.cell hSn x1
          have r2 := Since.cell hSn x2
          have HSn := Lib.hid hSn
          generalize wo.drewN nq = wq at *
          clear x0 x1 x2 hSn
          go_quiet (fail)
          go_upto_region 7 with (fail)
          have hSn : Since wq (wq.drewN nq) := below_drewN (Below.refl _ _) nq
          have x0 := Since.cell hSn r0
          have x1 := Since.cell hSn r1
          have x2 := Since.cell hSn r2
          have HSm := Lib.hid (Since.step HSn.out hSn)
          generalize wq.drewN nq = w2 at *
          clear r0 r1 r2 hSn
          have HX := Lib.hid (HX.out.keep HSm.out)
          have HEw := Lib.hid (HEw.out.below HSm.out)
          have HBw := Lib.hid (HBw.out.trans (Below.mono HSm.out HBw.out.size))
          have HTK0 := rfl_take HEw.out k (by omega)
          have HDR0 := (rfl_nil (R := RVa) (w := w2) (xs := xs.drop k) (.inr ⟨_, _, rfl⟩ : Emp (.slice (some ⟨b, k * 3, none⟩) 0 (c0 - k))) (List.drop_of_length_le (by rw [← HM.out]; exact Nat.le_refl _)))
          have HTK : Hid (RFl RVa w2 (.slice (some ⟨b, 0, none⟩) k c0) (xs.take k)) := Lib.hid HTK0
          have HDR : Hid (RFl RVa w2 (.slice (some ⟨b, k * 3, none⟩) 0 (c0 - k)) (xs.drop k)) := Lib.hid HDR0
          clear HTK0 HDR0
          have hl1 : ([] : List Va).length + (xs.take k).length ≤ 1000000000 := by have := HM.out; rw [List.length_take]; simp only [List.length_nil]; omega
          have hl2 : ([] ++ xs.take k).length + 1 ≤ 1000000000 := by have := HM.out; rw [List.length_append, List.length_take]; simp only [List.length_nil]; omega
          have hl3 : ([] ++ xs.take k ++ [(⟨vt, vn, vd⟩ : Va)]).length + (xs.drop k).length ≤ 1000000000 := by have := HM.out; rw [List.length_append, List.length_append, List.length_take, List.length_drop]; simp only [List.length_nil, List.length_singleton]; omega
          go_wp2_with (at_builtin; first | (refine push_rows_f rfl _ _ 25 rfl RVa 46 24 _ Tryz.underlying25 Tryz.infoVal rfl (by decide) w2.heap.size (.slice none 0 0) [] (xs.take k) (.slice (some ⟨b, 0, none⟩) k c0) rfl rfl (ROwn.nil _ _ _ _) HTK.out (Nat.le_refl _) hl1 ?_; intro a1 n1 c1 w3 hn1 hO1 hB1 hP1; obtain ⟨y0, y1, y2, -⟩ := (HX.out.keep hB1.out).open3) | (refine push_row_f rfl _ _ 25 rfl RVa 46 24 _ Tryz.underlying25 Tryz.infoVal rfl (by decide) w2.heap.size (.slice a1 n1 c1) ([] ++ xs.take k) [(⟨vt, vn, vd⟩ : Va)] _ _ rfl rfl _ 1 rfl rfl rfl hO1.out hB1.out.size hl2 ?_; intro a2 n2 c2 w4 hn2 hO2 hB2 hP2; have HS4 : Hid (Since w2 w4) := Lib.hid (Below.trans hB1.out hB2.out)) | (refine push_rows_f rfl _ _ 25 rfl RVa 46 24 _ Tryz.underlying25 Tryz.infoVal rfl (by decide) w2.heap.size (.slice a2 n2 c2) ([] ++ xs.take k ++ [(⟨vt, vn, vd⟩ : Va)]) (xs.drop k) (.slice (some ⟨b, k * 3, none⟩) 0 (c0 - k)) rfl rfl hO2.out (HDR.out.since HS4.out) (Below.size HS4.out) hl3 ?_; intro a3 n3 c3 w5 hn3 hO3 hB3 hP3))
          have HF := Lib.hid (tail_own (l := xs.take k ++ (⟨vt, vn, vd⟩ : Va) :: xs.drop k) rfl HBw.out HS4.out hO3.out hB3.out HB.out (sv := sv0))
          refine bodyPost_ret (v := .tuple #[.slice a3 n3 c3, .bool true]) (by simp [results, Tryz.results42, go_sem]) rfl ?_
          rw [HP0.out]
          exact ⟨_, _, _, rfl, Lib.hid HF.out.2.2, Lib.hid fun l hl => by cases hl; rw [← HSV.out]; exact ⟨HF.out.1, HF.out.2.1⟩⟩

end Go.Proofs.YtelhpndlejommaaGreat

/- The reference's part: a part put behind all that are not greater. -/
namespace Go.Proofs.YtelhpndlejommaaGreat
open Go.RowKit Go.Shelf

theorem th_at {w : World} {b n c : Nat} {vs : List Tr} {j : Nat} {v : Tr} (h : REls RTh w (.slice (some ⟨b, 0, none⟩) n c) vs) (hv : vs[j]? = some v) :
    w.cell? ⟨b, j * 3, none⟩ = some (.slice v.a1 v.n1 v.c1) ∧ w.cell? ⟨b, j * 3 + 1, none⟩ = some (.slice v.a2 v.n2 v.c2) ∧ w.cell? ⟨b, j * 3 + 2, none⟩ = some (.slice v.a3 v.n3 v.c3) ∧ b < w.heap.size := by
  have hn := h.len
  have hj : j < n := by rw [hn]; exact (List.getElem?_eq_some_iff.1 hv).1
  obtain ⟨b', e, hb, hc, hat⟩ := h.get hj
  cases e
  have g := fun i u hu => hat j v hv i u hu
  exact ⟨g 0 _ rfl, g 1 _ rfl, g 2 _ rfl, hb⟩

/-- Things of rows, readable. -/
def Rd3 (w : World) (rs : List Tr) (ps : List Th) : Prop := rs.length = ps.length ∧ ∀ (j : Nat) (r : Tr) (t : Th), rs[j]? = some r → ps[j]? = some t → TAt w.heap.size w t (.slice r.a1 r.n1 r.c1) (.slice r.a2 r.n2 r.c2) (.slice r.a3 r.n3 r.c3)

/-- What part leaves. -/
def PartOut (rs : List Tr) (ps : List Th) (r : Tr) (p : Th) (w : World) (e : Ending) (w' : World) : Prop :=
  ∃ x n c k, e = .returned (.slice x n c) ∧ Hid (k ≤ ps.length ∧ partL p ps = ps.take k ++ p :: ps.drop k) ∧ Hid (ROwn RTh 27 w.heap.size w' (.slice x n c) (rs.take k ++ r :: rs.drop k)) ∧ Hid (Below w.heap.size w w')

set_option maxHeartbeats 8000000 in
set_option maxRecDepth 100000 in
theorem part_any (sv : Value) (xs : List Tr) (ps : List Th) (r : Tr) (p : Th) (w : World) (hE : REls RTh w sv xs) (h0 : xs = [] → sv = .slice none 0 0) (hR : Rd3 w xs ps) (hp : TAt w.heap.size w p (.slice r.a1 r.n1 r.c1) (.slice r.a2 r.n2 r.c2) (.slice r.a3 r.n3 r.c3)) (hok : ∀ q ∈ ps, CmpOk q) (hpk : CmpOk p) (hl : xs.length ≤ 1000000) :
    Calls Tryz.prog 33 #[sv, .agg #[.slice r.a1 r.n1 r.c1, .slice r.a2 r.n2 r.c2, .slice r.a3 r.n3 r.c3]] w (PartOut xs ps r p w) := by
  obtain ⟨a0, c0, rfl⟩ := hE.shape
  obtain ⟨sv0, hsv0⟩ : ∃ s : Value, s = .slice none 0 0 := ⟨_, rfl⟩
  obtain ⟨a1, n1, c1, a2, n2, c2, a3, n3, c3⟩ := r
  simp only at hp ⊢
  have HA := Lib.hid (partL_at p)
  have KS := Lib.hid fun (x : Th) (hx : x ∈ ps) a b c a' b' c' W h1 h2 => rcmp_all x.size x (Nat.le_refl _) (hok x hx) p hpk a b c a' b' c' W h1 h2
  obtain ⟨m, hm⟩ : ∃ m, m = xs.length := ⟨_, rfl⟩
  have HM := Lib.hid hm
  have HMP : Hid (m = ps.length) := Lib.hid (hm.trans hR.1)
  have HB : Hid (w.heap.size ≤ w.heap.size) := Lib.hid (Nat.le_refl _)
  have HR := Lib.hid hR.2
  have HTP := Lib.hid hp
  obtain ⟨W1, hW1⟩ : ∃ W1, W1 = w.alloc (.cells #[.slice a1 n1 c1, .slice a2 n2 c2, .slice a3 n3 c3] 27) := ⟨_, rfl⟩
  have hX1 : BoxL w.heap.size [.slice a1 n1 c1, .slice a2 n2 c2, .slice a3 n3 c3] W1 := by rw [hW1]; exact BoxL.made w _ _
  have hB1 : Below w.heap.size w W1 := by rw [hW1]; exact (Below.refl _ _).alloc (Nat.le_refl _) _
  have HX1 := Lib.hid hX1
  have HB1 := Lib.hid hB1
  have HE1 := Lib.hid (hE.below hB1)
  rw [← hm] at hl h0 HE1 ⊢
  have HS1 := Lib.hid (Since.refl W1)
  clear hE hm hX1 hB1 hsv0 hR hp hok hpk
  go_enter Tryz.func33, Tryz.ntmps33
  go_upto_region 1 with (fail)
  rw [← hW1]
  clear hW1
  go_wp2
  go_loopw [5] (fun x wr => ∃ k : Nat, k ≤ m ∧ x = .int .i64 k ∧ Hid (∀ j x, j < k → ps[j]? = some x → Th.cmp x p ≤ 0) ∧ Hid (Since W1 wr)) (fun x _ => m - (intOf x).toNat)
  case atStart => exact ⟨0, by omega, rfl, Lib.hid fun j x hj => by omega, HS1⟩
  case round =>
    clear HS1
    obtain ⟨k, hk, rfl, hlt, hS⟩ := hrel
    have HX := Lib.hid (HX1.out.keep hS.out)
    have HEw := Lib.hid (HE1.out.below hS.out)
    have HBw := Lib.hid (HB1.out.trans (Below.mono hS.out HB1.out.size))
    obtain ⟨x0, x1, x2, -⟩ := HX.out.open3
    by_cases hkm : k < m
    · have i1 : (k : Int) < m := by omega
      obtain ⟨z, hz⟩ : ∃ z, xs[k]? = some z := ⟨xs[k]'(by rw [← HM.out]; exact hkm), List.getElem?_eq_getElem _⟩
      obtain ⟨q, hq⟩ : ∃ q, ps[k]? = some q := ⟨ps[k]'(by rw [← HMP.out]; exact hkm), List.getElem?_eq_getElem _⟩
      obtain ⟨b, rfl, -, hcap, -⟩ := HEw.out.get hkm
      obtain ⟨p0, p1, p2, -⟩ := th_at HEw.out hz
      have hSd : Since wr wr.drew := Since.drew (Since.refl _)
      have hBd := HBw.out.trans (Below.mono hSd HBw.out.size)
      have KQ := Lib.hid (KS.out q (List.mem_of_getElem? hq) _ _ _ _ _ _ wr.drew (TAt.below hBd (HR.out k z q hz hq)) (TAt.below hBd HTP.out))
      obtain ⟨z1, m1, d1, z2, m2, d2, z3, m3, d3⟩ := z
      simp only at p0 p1 p2 KQ
      clear hBd
      by_cases hv : Th.cmp q p ≤ 0
      · have HZ : Hid (∀ j x, j < k + 1 → ps[j]? = some x → Th.cmp x p ≤ 0) := Lib.hid fun j x hj hx => by
          by_cases h : j < k
          · exact hlt.out j x h hx
          · have : j = k := by omega
            subst this
            rw [hq] at hx
            injection hx with hx
            rw [← hx]; exact hv
        generalize Th.cmp q p = v at *
        clear hlt hz hq
        go_wp2_with fail
        go_region_held3 (fun w' => w'.cell? ⟨b, k * 3, none⟩ = some (.slice z1 m1 d1) ∧ w'.cell? ⟨b, k * 3 + 1, none⟩ = some (.slice z2 m2 d2) ∧ w'.cell? ⟨b, k * 3 + 2, none⟩ = some (.slice z3 m3 d3) ∧ w'.cell? ⟨w.heap.size, 0, none⟩ = some (.slice a1 n1 c1) ∧ w'.cell? ⟨w.heap.size, 1, none⟩ = some (.slice a2 n2 c2) ∧ w'.cell? ⟨w.heap.size, 2, none⟩ = some (.slice a3 n3 c3) ∧ Since wr w')
          (first | exact ⟨p0, p1, p2, x0, x1, x2, hSd⟩ | exact ⟨Since.cell hB2 p0, Since.cell hB2 p1, Since.cell hB2 p2, Since.cell hB2 x0, Since.cell hB2 x1, Since.cell hB2 x2, hB2⟩)
          ((go_at_call 22; refine KQ.out.mono ?_; rintro e w' ⟨rfl, hr⟩; have hB2 : Since wr w' := Since.step hSd hr; clear hr))
        have HS2 := Lib.hid (Since.step hS.out hB2)
        clear hB2 hSd p0 p1 p2 x0 x1 x2 hS
        go_wp2
        go_roundw
        case rel => exact ⟨k + 1, by omega, by go_num, HZ, HS2⟩
        case measure => simp [intOf]; omega
      · have HP0 := Lib.hid (HA.out k ps hlt.out (by rw [← HMP.out]; omega) (fun x hx => by rw [hq] at hx; injection hx with hx; subst hx; omega))
        have e1 : (0 : Int) ≤ (k : Int) := by omega
        have e2 : (k : Int) ≤ (c0 : Int) := by omega
        have e3 : ((k : Int)).toNat = k := by omega
        have e4 : k ≤ c0 := by omega
        have e5 : (k : Int) ≤ (m : Int) := by omega
        generalize Th.cmp q p = v at *
        clear hlt hz hq HA h0
        go_wp2_with fail
        go_region_held3 (fun w' => w'.cell? ⟨b, k * 3, none⟩ = some (.slice z1 m1 d1) ∧ w'.cell? ⟨b, k * 3 + 1, none⟩ = some (.slice z2 m2 d2) ∧ w'.cell? ⟨b, k * 3 + 2, none⟩ = some (.slice z3 m3 d3) ∧ w'.cell? ⟨w.heap.size, 0, none⟩ = some (.slice a1 n1 c1) ∧ w'.cell? ⟨w.heap.size, 1, none⟩ = some (.slice a2 n2 c2) ∧ w'.cell? ⟨w.heap.size, 2, none⟩ = some (.slice a3 n3 c3) ∧ Since wr w')
          (first | exact ⟨p0, p1, p2, x0, x1, x2, hSd⟩ | exact ⟨Since.cell hB2 p0, Since.cell hB2 p1, Since.cell hB2 p2, Since.cell hB2 x0, Since.cell hB2 x1, Since.cell hB2 x2, hB2⟩)
          ((go_at_call 22; refine KQ.out.mono ?_; rintro e w' ⟨rfl, hr⟩; have hB2 : Since wr w' := Since.step hSd hr; clear hr))
        rename World => w2
        have HSm := Lib.hid hB2
        clear hB2 hSd p0 p1 p2 x0 x1 x2
        have HX := Lib.hid (HX.out.keep HSm.out)
        have HEw := Lib.hid (HEw.out.below HSm.out)
        have HBw := Lib.hid (HBw.out.trans (Below.mono HSm.out HBw.out.size))
        obtain ⟨x0, x1, x2, -⟩ := HX.out.open3
        have HTK0 := rfl_take HEw.out k (by omega)
        have HDR0 := rfl_drop HEw.out k (by omega)
        have HTK : Hid (RFl RTh w2 (.slice (some ⟨b, 0, none⟩) k c0) (xs.take k)) := Lib.hid HTK0
        have HDR : Hid (RFl RTh w2 (.slice (some ⟨b, k * 3, none⟩) (m - k) (c0 - k)) (xs.drop k)) := Lib.hid HDR0
        clear HTK0 HDR0
        have hl1 : ([] : List Tr).length + (xs.take k).length ≤ 1000000000 := by have := HM.out; rw [List.length_take]; simp only [List.length_nil]; omega
        have hl2 : ([] ++ xs.take k).length + 1 ≤ 1000000000 := by have := HM.out; rw [List.length_append, List.length_take]; simp only [List.length_nil]; omega
        have hl3 : ([] ++ xs.take k ++ [(⟨a1, n1, c1, a2, n2, c2, a3, n3, c3⟩ : Tr)]).length + (xs.drop k).length ≤ 1000000000 := by have := HM.out; rw [List.length_append, List.length_append, List.length_take, List.length_drop]; simp only [List.length_nil, List.length_singleton]; omega
        go_wp2_with (at_builtin; first | (refine push_rows_f rfl _ _ 23 rfl RTh 27 72 _ Tryz.underlying23 Tryz.infoTh rfl (by decide) w2.heap.size (.slice none 0 0) [] (xs.take k) (.slice (some ⟨b, 0, none⟩) k c0) rfl rfl (ROwn.nil _ _ _ _) HTK.out (Nat.le_refl _) hl1 ?_; intro f1 l1 g1 w3 hn1 hO1 hB1 hP1; obtain ⟨y0, y1, y2, -⟩ := (HX.out.keep hB1.out).open3) | (refine push_row_f rfl _ _ 23 rfl RTh 27 72 _ Tryz.underlying23 Tryz.infoTh rfl (by decide) w2.heap.size (.slice f1 l1 g1) ([] ++ xs.take k) [(⟨a1, n1, c1, a2, n2, c2, a3, n3, c3⟩ : Tr)] _ _ rfl rfl _ 1 rfl rfl rfl hO1.out hB1.out.size hl2 ?_; intro f2 l2 g2 w4 hn2 hO2 hB2 hP2; have HS4 : Hid (Since w2 w4) := Lib.hid (Below.trans hB1.out hB2.out)) | (refine push_rows_f rfl _ _ 23 rfl RTh 27 72 _ Tryz.underlying23 Tryz.infoTh rfl (by decide) w2.heap.size (.slice f2 l2 g2) ([] ++ xs.take k ++ [(⟨a1, n1, c1, a2, n2, c2, a3, n3, c3⟩ : Tr)]) (xs.drop k) (.slice (some ⟨b, k * 3, none⟩) (m - k) (c0 - k)) rfl rfl hO2.out (HDR.out.since HS4.out) (Below.size HS4.out) hl3 ?_; intro f3 l3 g3 w5 hn3 hO3 hB3 hP3))
        have HF := Lib.hid (tail_own (l := xs.take k ++ (⟨a1, n1, c1, a2, n2, c2, a3, n3, c3⟩ : Tr) :: xs.drop k) rfl HBw.out HS4.out hO3.out hB3.out HB.out (sv := sv0))
        go_ret
        exact ⟨_, _, _, k, rfl, Lib.hid ⟨by rw [← HMP.out]; omega, HP0.out⟩, Lib.hid HF.out.1, Lib.hid HF.out.2.2⟩
    · have i1 : ¬ (k : Int) < m := by omega
      have hp := HA.out k ps hlt.out (by rw [← HMP.out]; omega) (fun x hx => by have := (List.getElem?_eq_some_iff.1 hx).1; have := HMP.out; omega)
      have hkm2 : k = m := by omega
      subst hkm2
      have HP0 := Lib.hid hp
      clear hp hlt HA KS HTP HR
      rename World => wo
      have e1 : (0 : Int) ≤ (k : Int) := by omega
      have e3 : ((k : Int)).toNat = k := by omega
      have e5 : (k : Int) ≤ (k : Int) := by omega
      by_cases hm0 : k = 0
      · subst hm0
        have hzs : xs = [] := List.eq_nil_of_length_eq_zero HM.out.symm
        have h1 := h0 hzs
        injection h1 with h1 h2 h3
        subst h1
        subst h3
        have HZS := Lib.hid hzs
        clear hzs h0
        have e2 : (0 : Int) ≤ ((0 : Nat) : Int) := by omega
        go_wp2_with fail
        go_quiet (fail)
        go_upto_region 5 with (fail)
        have hSn : Since wo (wo.drewN nq) := below_drewN (Below.refl _ _) nq
        have HSm := Lib.hid hSn
        generalize wo.drewN nq = w2 at *
        clear x0 x1 x2 hSn
        have HX := Lib.hid (HX.out.keep HSm.out)
        have HEw := Lib.hid (HEw.out.below HSm.out)
        have HBw := Lib.hid (HBw.out.trans (Below.mono HSm.out HBw.out.size))
        obtain ⟨x0, x1, x2, -⟩ := HX.out.open3
        have HTK0 := (rfl_nil (R := RTh) (w := w2) (xs := xs.take 0) (.inl rfl : Emp (.slice none 0 0)) rfl)
        have HDR0 := (rfl_nil (R := RTh) (w := w2) (xs := xs.drop 0) (.inl rfl : Emp (.slice none 0 0)) (by rw [HZS.out]; rfl))
        have HTK : Hid (RFl RTh w2 (.slice none 0 0) (xs.take 0)) := Lib.hid HTK0
        have HDR : Hid (RFl RTh w2 (.slice none 0 0) (xs.drop 0)) := Lib.hid HDR0
        clear HTK0 HDR0
        have hl1 : ([] : List Tr).length + (xs.take 0).length ≤ 1000000000 := by have := HM.out; rw [List.length_take]; simp only [List.length_nil]; omega
        have hl2 : ([] ++ xs.take 0).length + 1 ≤ 1000000000 := by have := HM.out; rw [List.length_append, List.length_take]; simp only [List.length_nil]; omega
        have hl3 : ([] ++ xs.take 0 ++ [(⟨a1, n1, c1, a2, n2, c2, a3, n3, c3⟩ : Tr)]).length + (xs.drop 0).length ≤ 1000000000 := by have := HM.out; rw [List.length_append, List.length_append, List.length_take, List.length_drop]; simp only [List.length_nil, List.length_singleton]; omega
        go_wp2_with (at_builtin; first | (refine push_rows_f rfl _ _ 23 rfl RTh 27 72 _ Tryz.underlying23 Tryz.infoTh rfl (by decide) w2.heap.size (.slice none 0 0) [] (xs.take 0) (.slice none 0 0) rfl rfl (ROwn.nil _ _ _ _) HTK.out (Nat.le_refl _) hl1 ?_; intro f1 l1 g1 w3 hn1 hO1 hB1 hP1; obtain ⟨y0, y1, y2, -⟩ := (HX.out.keep hB1.out).open3) | (refine push_row_f rfl _ _ 23 rfl RTh 27 72 _ Tryz.underlying23 Tryz.infoTh rfl (by decide) w2.heap.size (.slice f1 l1 g1) ([] ++ xs.take 0) [(⟨a1, n1, c1, a2, n2, c2, a3, n3, c3⟩ : Tr)] _ _ rfl rfl _ 1 rfl rfl rfl hO1.out hB1.out.size hl2 ?_; intro f2 l2 g2 w4 hn2 hO2 hB2 hP2; have HS4 : Hid (Since w2 w4) := Lib.hid (Below.trans hB1.out hB2.out)) | (refine push_rows_f rfl _ _ 23 rfl RTh 27 72 _ Tryz.underlying23 Tryz.infoTh rfl (by decide) w2.heap.size (.slice f2 l2 g2) ([] ++ xs.take 0 ++ [(⟨a1, n1, c1, a2, n2, c2, a3, n3, c3⟩ : Tr)]) (xs.drop 0) (.slice none 0 0) rfl rfl hO2.out (HDR.out.since HS4.out) (Below.size HS4.out) hl3 ?_; intro f3 l3 g3 w5 hn3 hO3 hB3 hP3))
        have HF := Lib.hid (tail_own (l := xs.take 0 ++ (⟨a1, n1, c1, a2, n2, c2, a3, n3, c3⟩ : Tr) :: xs.drop 0) rfl HBw.out HS4.out hO3.out hB3.out HB.out (sv := sv0))
        go_ret
        exact ⟨_, _, _, 0, rfl, Lib.hid ⟨by rw [← HMP.out]; omega, HP0.out⟩, Lib.hid HF.out.1, Lib.hid HF.out.2.2⟩
      · obtain ⟨b, rfl, -, hcap, -⟩ := HEw.out.get (j := 0) (by omega)
        by_cases hce : c0 = k
        · have hce2 := hce.symm
          subst hce2
          have e4 : k ≤ k := by omega
          clear h0
          go_wp2_with fail
          go_quiet (fail)
          go_upto_region 5 with (fail)
          have hSn : Since wo (wo.drewN nq) := below_drewN (Below.refl _ _) nq
          have HSm := Lib.hid hSn
          generalize wo.drewN nq = w2 at *
          clear x0 x1 x2 hSn
          have HX := Lib.hid (HX.out.keep HSm.out)
          have HEw := Lib.hid (HEw.out.below HSm.out)
          have HBw := Lib.hid (HBw.out.trans (Below.mono HSm.out HBw.out.size))
          obtain ⟨x0, x1, x2, -⟩ := HX.out.open3
          have HTK0 := rfl_take HEw.out k (by omega)
          have HDR0 := (rfl_nil (R := RTh) (w := w2) (xs := xs.drop k) (.inr ⟨_, _, rfl⟩ : Emp (.slice (some ⟨b, 0, none⟩) 0 0)) (List.drop_of_length_le (by rw [← HM.out]; exact Nat.le_refl _)))
          have HTK : Hid (RFl RTh w2 (.slice (some ⟨b, 0, none⟩) k k) (xs.take k)) := Lib.hid HTK0
          have HDR : Hid (RFl RTh w2 (.slice (some ⟨b, 0, none⟩) 0 0) (xs.drop k)) := Lib.hid HDR0
          clear HTK0 HDR0
          have hl1 : ([] : List Tr).length + (xs.take k).length ≤ 1000000000 := by have := HM.out; rw [List.length_take]; simp only [List.length_nil]; omega
          have hl2 : ([] ++ xs.take k).length + 1 ≤ 1000000000 := by have := HM.out; rw [List.length_append, List.length_take]; simp only [List.length_nil]; omega
          have hl3 : ([] ++ xs.take k ++ [(⟨a1, n1, c1, a2, n2, c2, a3, n3, c3⟩ : Tr)]).length + (xs.drop k).length ≤ 1000000000 := by have := HM.out; rw [List.length_append, List.length_append, List.length_take, List.length_drop]; simp only [List.length_nil, List.length_singleton]; omega
          go_wp2_with (at_builtin; first | (refine push_rows_f rfl _ _ 23 rfl RTh 27 72 _ Tryz.underlying23 Tryz.infoTh rfl (by decide) w2.heap.size (.slice none 0 0) [] (xs.take k) (.slice (some ⟨b, 0, none⟩) k k) rfl rfl (ROwn.nil _ _ _ _) HTK.out (Nat.le_refl _) hl1 ?_; intro f1 l1 g1 w3 hn1 hO1 hB1 hP1; obtain ⟨y0, y1, y2, -⟩ := (HX.out.keep hB1.out).open3) | (refine push_row_f rfl _ _ 23 rfl RTh 27 72 _ Tryz.underlying23 Tryz.infoTh rfl (by decide) w2.heap.size (.slice f1 l1 g1) ([] ++ xs.take k) [(⟨a1, n1, c1, a2, n2, c2, a3, n3, c3⟩ : Tr)] _ _ rfl rfl _ 1 rfl rfl rfl hO1.out hB1.out.size hl2 ?_; intro f2 l2 g2 w4 hn2 hO2 hB2 hP2; have HS4 : Hid (Since w2 w4) := Lib.hid (Below.trans hB1.out hB2.out)) | (refine push_rows_f rfl _ _ 23 rfl RTh 27 72 _ Tryz.underlying23 Tryz.infoTh rfl (by decide) w2.heap.size (.slice f2 l2 g2) ([] ++ xs.take k ++ [(⟨a1, n1, c1, a2, n2, c2, a3, n3, c3⟩ : Tr)]) (xs.drop k) (.slice (some ⟨b, 0, none⟩) 0 0) rfl rfl hO2.out (HDR.out.since HS4.out) (Below.size HS4.out) hl3 ?_; intro f3 l3 g3 w5 hn3 hO3 hB3 hP3))
          have HF := Lib.hid (tail_own (l := xs.take k ++ (⟨a1, n1, c1, a2, n2, c2, a3, n3, c3⟩ : Tr) :: xs.drop k) rfl HBw.out HS4.out hO3.out hB3.out HB.out (sv := sv0))
          go_ret
          exact ⟨_, _, _, k, rfl, Lib.hid ⟨by rw [← HMP.out]; omega, HP0.out⟩, Lib.hid HF.out.1, Lib.hid HF.out.2.2⟩
        · have hck : ¬ c0 = k := hce
          have e2 : (k : Int) ≤ (c0 : Int) := by omega
          have e4 : k ≤ c0 := by omega
          clear h0
          go_wp2_with fail
          go_quiet (fail)
          go_upto_region 5 with (fail)
          have hSn : Since wo (wo.drewN nq) := below_drewN (Below.refl _ _) nq
          have HSm := Lib.hid hSn
          generalize wo.drewN nq = w2 at *
          clear x0 x1 x2 hSn
          have HX := Lib.hid (HX.out.keep HSm.out)
          have HEw := Lib.hid (HEw.out.below HSm.out)
          have HBw := Lib.hid (HBw.out.trans (Below.mono HSm.out HBw.out.size))
          obtain ⟨x0, x1, x2, -⟩ := HX.out.open3
          have HTK0 := rfl_take HEw.out k (by omega)
          have HDR0 := (rfl_nil (R := RTh) (w := w2) (xs := xs.drop k) (.inr ⟨_, _, rfl⟩ : Emp (.slice (some ⟨b, k * 3, none⟩) 0 (c0 - k))) (List.drop_of_length_le (by rw [← HM.out]; exact Nat.le_refl _)))
          have HTK : Hid (RFl RTh w2 (.slice (some ⟨b, 0, none⟩) k c0) (xs.take k)) := Lib.hid HTK0
          have HDR : Hid (RFl RTh w2 (.slice (some ⟨b, k * 3, none⟩) 0 (c0 - k)) (xs.drop k)) := Lib.hid HDR0
          clear HTK0 HDR0
          have hl1 : ([] : List Tr).length + (xs.take k).length ≤ 1000000000 := by have := HM.out; rw [List.length_take]; simp only [List.length_nil]; omega
          have hl2 : ([] ++ xs.take k).length + 1 ≤ 1000000000 := by have := HM.out; rw [List.length_append, List.length_take]; simp only [List.length_nil]; omega
          have hl3 : ([] ++ xs.take k ++ [(⟨a1, n1, c1, a2, n2, c2, a3, n3, c3⟩ : Tr)]).length + (xs.drop k).length ≤ 1000000000 := by have := HM.out; rw [List.length_append, List.length_append, List.length_take, List.length_drop]; simp only [List.length_nil, List.length_singleton]; omega
          go_wp2_with (at_builtin; first | (refine push_rows_f rfl _ _ 23 rfl RTh 27 72 _ Tryz.underlying23 Tryz.infoTh rfl (by decide) w2.heap.size (.slice none 0 0) [] (xs.take k) (.slice (some ⟨b, 0, none⟩) k c0) rfl rfl (ROwn.nil _ _ _ _) HTK.out (Nat.le_refl _) hl1 ?_; intro f1 l1 g1 w3 hn1 hO1 hB1 hP1; obtain ⟨y0, y1, y2, -⟩ := (HX.out.keep hB1.out).open3) | (refine push_row_f rfl _ _ 23 rfl RTh 27 72 _ Tryz.underlying23 Tryz.infoTh rfl (by decide) w2.heap.size (.slice f1 l1 g1) ([] ++ xs.take k) [(⟨a1, n1, c1, a2, n2, c2, a3, n3, c3⟩ : Tr)] _ _ rfl rfl _ 1 rfl rfl rfl hO1.out hB1.out.size hl2 ?_; intro f2 l2 g2 w4 hn2 hO2 hB2 hP2; have HS4 : Hid (Since w2 w4) := Lib.hid (Below.trans hB1.out hB2.out)) | (refine push_rows_f rfl _ _ 23 rfl RTh 27 72 _ Tryz.underlying23 Tryz.infoTh rfl (by decide) w2.heap.size (.slice f2 l2 g2) ([] ++ xs.take k ++ [(⟨a1, n1, c1, a2, n2, c2, a3, n3, c3⟩ : Tr)]) (xs.drop k) (.slice (some ⟨b, k * 3, none⟩) 0 (c0 - k)) rfl rfl hO2.out (HDR.out.since HS4.out) (Below.size HS4.out) hl3 ?_; intro f3 l3 g3 w5 hn3 hO3 hB3 hP3))
          have HF := Lib.hid (tail_own (l := xs.take k ++ (⟨a1, n1, c1, a2, n2, c2, a3, n3, c3⟩ : Tr) :: xs.drop k) rfl HBw.out HS4.out hO3.out hB3.out HB.out (sv := sv0))
          go_ret
          exact ⟨_, _, _, k, rfl, Lib.hid ⟨by rw [← HMP.out]; omega, HP0.out⟩, Lib.hid HF.out.1, Lib.hid HF.out.2.2⟩

end Go.Proofs.YtelhpndlejommaaGreat

