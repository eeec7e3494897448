/- The comparison of things, with the count of draws: what a sort asks of it. -/
import Derived.Test.YtelhpndlejommaaGreatCaCc
import Derived.Sort.Grow
namespace Go.Proofs.YtelhpndlejommaaGreat.W
open Go.RowKit Go.Shelf

/-- Below, and the draws go on. -/
structure Below (B : Nat) (w w' : World) : Prop extends Go.RowKit.Below B w w' where
  dr : w.drawn ≤ w'.drawn

theorem Below.refl (B : Nat) (w : World) : Below B w w := ⟨Go.RowKit.Below.refl B w, Nat.le_refl _⟩
theorem Below.trans {B : Nat} {a b c : World} (h : Below B a b) (k : Below B b c) : Below B a c := ⟨h.toBelow.trans k.toBelow, Nat.le_trans h.dr k.dr⟩
theorem Below.mono {B B' : Nat} {w w' : World} (h : Below B w w') (hB : B' ≤ B) : Below B' w w' := ⟨h.toBelow.mono hB, h.dr⟩
theorem Below.drew {B : Nat} {a w : World} (h : Below B a w) : Below B a w.drew := ⟨h.toBelow.drew, Nat.le_trans h.dr (Nat.le_succ _)⟩
theorem Below.alloc {B : Nat} {a w : World} (h : Below B a w) (hB : B ≤ w.heap.size) (o : Obj) : Below B a (w.alloc o) := ⟨h.toBelow.alloc hB o, h.dr⟩
theorem Below.setCell {B : Nat} {a w : World} (h : Below B a w) {p : Addr} (hp : B ≤ p.block) (u : Value) : Below B a (w.setCell p u) := ⟨h.toBelow.setCell hp u, h.dr⟩
theorem below_drewN {B : Nat} {a w : World} (h : Below B a w) (n : Nat) : Below B a (w.drewN n) := ⟨h.toBelow.trans ⟨rfl, rfl, rfl, Nat.le_refl _, fun _ _ => rfl⟩, Nat.le_trans h.dr (Nat.le_add_right _ _)⟩

def Since (wb W : World) : Prop := Below wb.heap.size wb W

instance (B : Nat) (w w' : World) : CoeOut (Below B w w') (Go.RowKit.Below B w w') := ⟨fun h => h.toBelow⟩
instance (w w' : World) : CoeOut (Since w w') (Go.RowKit.Below w.heap.size w w') := ⟨fun h => Below.toBelow h⟩

theorem since_size {W1 X : World} (h : Since W1 X) : W1.heap.size ≤ X.heap.size := RowKit.Below.size (Below.toBelow h)

theorem Since.cell {wb W : World} (h : Since wb W) {p : Addr} {v : Value} (hv : wb.cell? p = some v) : W.cell? p = some v :=
  (Go.RowKit.Below.cell (Below.toBelow h) (block_there hv)).trans hv
theorem Since.step {wb W W' : World} (h : Since wb W) (k : Below W.heap.size W W') : Since wb W' := Below.trans h (k.mono (since_size h))
theorem Since.alloc {wb W : World} (h : Since wb W) (o : Obj) : Since wb (W.alloc o) := Below.alloc h (since_size h) o

/-- What it gives a sort. -/
theorem Below.grows {w w' : World} (h : Below w.heap.size w w') : ∃ q os, w' = Sort.grow (w.drewN q) os := by
  refine ⟨w'.drawn - w.drawn, w'.heap.extract w.heap.size w'.heap.size, ?_⟩
  obtain ⟨⟨h1, h2, h3, h4, h5⟩, h6⟩ := h
  have hh : w.heap ++ w'.heap.extract w.heap.size w'.heap.size = w'.heap := by
    apply Array.ext_getElem?
    intro i
    by_cases hi : i < w.heap.size
    · rw [Array.getElem?_append_left hi, h5 i hi]
    · rw [Array.getElem?_append_right (by omega)]
      by_cases hj : i < w'.heap.size
      · rw [Array.getElem?_extract, if_pos (by omega)]
        congr 1
        omega
      · rw [Array.getElem?_eq_none (by simp; omega), Array.getElem?_eq_none (by omega)]
  cases w with
  | mk heap tape drawn os output =>
    cases w' with
    | mk heap' tape' drawn' os' output' =>
      simp only at h1 h2 h3 h4 h5 h6 hh
      subst h1 h2 h3
      unfold Sort.grow World.drewN
      simp only [World.mk.injEq]
      exact ⟨hh.symm, trivial, by omega, trivial, trivial⟩

theorem Since.refl (w : World) : Since w w := Below.refl _ _
theorem Since.drew {wb w : World} (h : Since wb w) : Since wb w.drew := Below.drew h

theorem since_set {W1 X : World} {P : Nat} (h : Since W1 X) (hP : W1.heap.size ≤ P) (o : Nat) (v : Value) : Since W1 (X.setCell ⟨P, o, none⟩ v) := Below.setCell h (p := ⟨P, o, none⟩) hP v

/-- A box made since W1. -/
def NewBox (W1 : World) (zs : List Value) (P : Nat) (X : World) : Prop := W1.heap.size ≤ P ∧ BoxL P zs X ∧ Since W1 X

theorem NewBox.made {W1 X : World} (h : Since W1 X) (cs : Array Value) (T : TypeId) : NewBox W1 cs.toList X.heap.size (X.alloc (.cells cs T)) := ⟨since_size h, BoxL.made X cs T, Since.alloc h _⟩
theorem NewBox.alloc {W1 X : World} {zs : List Value} {P : Nat} (h : NewBox W1 zs P X) (o : Obj) : NewBox W1 zs P (X.alloc o) := ⟨h.1, h.2.1.under o, Since.alloc h.2.2 o⟩
theorem NewBox.drew {W1 X : World} {zs : List Value} {P : Nat} (h : NewBox W1 zs P X) : NewBox W1 zs P X.drew := ⟨h.1, h.2.1.keep (Below.toBelow (Since.drew (Since.refl _))), Since.drew h.2.2⟩
theorem NewBox.step {W1 X Y : World} {zs : List Value} {P : Nat} (h : NewBox W1 zs P X) (hr : Below X.heap.size X Y) : NewBox W1 zs P Y := ⟨h.1, h.2.1.keep (Below.toBelow hr), Since.step h.2.2 hr⟩

/-- Two boxes made since W1. -/
def TwoBox (W1 : World) (zs : List Value) (P Q : Nat) (X : World) : Prop := NewBox W1 zs P X ∧ NewBox W1 zs Q X ∧ P ≠ Q

theorem TwoBox.madeQ {W1 X : World} {cs : Array Value} {P : Nat} (h : NewBox W1 cs.toList P X) (T : TypeId) : TwoBox W1 cs.toList P X.heap.size (X.alloc (.cells cs T)) := ⟨h.alloc _, NewBox.made h.2.2 cs T, Nat.ne_of_lt h.2.1.1⟩
theorem TwoBox.madeP {W1 X : World} {cs : Array Value} {Q : Nat} (h : NewBox W1 cs.toList Q X) (T : TypeId) : TwoBox W1 cs.toList X.heap.size Q (X.alloc (.cells cs T)) := ⟨NewBox.made h.2.2 cs T, h.alloc _, (Nat.ne_of_lt h.2.1.1).symm⟩
theorem TwoBox.alloc {W1 X : World} {zs : List Value} {P Q : Nat} (h : TwoBox W1 zs P Q X) (o : Obj) : TwoBox W1 zs P Q (X.alloc o) := ⟨h.1.alloc o, h.2.1.alloc o, h.2.2⟩
theorem TwoBox.drew {W1 X : World} {zs : List Value} {P Q : Nat} (h : TwoBox W1 zs P Q X) : TwoBox W1 zs P Q X.drew := ⟨h.1.drew, h.2.1.drew, h.2.2⟩
theorem TwoBox.step {W1 X Y : World} {zs : List Value} {P Q : Nat} (h : TwoBox W1 zs P Q X) (hr : Below X.heap.size X Y) : TwoBox W1 zs P Q Y := ⟨h.1.step hr, h.2.1.step hr, h.2.2⟩

theorem TwoBox.symm {W1 X : World} {zs : List Value} {P Q : Nat} (h : TwoBox W1 zs P Q X) : TwoBox W1 zs Q P X := ⟨h.2.1, h.1, h.2.2.symm⟩

/-- What lies in two new boxes. -/
def Both3 (W1 : World) (xs ys : List Value) (s t : Value) (wx : World) : Prop := ∃ P Q, s = .pointer (some ⟨P, 0, none⟩) ∧ t = .pointer (some ⟨Q, 0, none⟩) ∧ BoxL P xs wx ∧ BoxL Q ys wx ∧ Since W1 wx

theorem TwoBox.put {W1 X : World} {P Q : Nat} {z : Value} {a b c d e f : Value} (h : TwoBox W1 [z, z, z] P Q X) : Both3 W1 [a, b, c] [d, e, f] (.pointer (some ⟨P, 0, none⟩)) (.pointer (some ⟨Q, 0, none⟩)) ((((((X.setCell ⟨P, 0, none⟩ a).setCell ⟨P, 1, none⟩ b).setCell ⟨P, 2, none⟩ c).setCell ⟨Q, 0, none⟩ d).setCell ⟨Q, 1, none⟩ e).setCell ⟨Q, 2, none⟩ f) := by
  obtain ⟨⟨p1, p2, p3⟩, ⟨q1, q2, -⟩, hne⟩ := h
  refine ⟨P, Q, rfl, rfl, ?_, ?_, ?_⟩
  · refine box_keepset (box_keepset (box_keepset ?_ hne _ _) hne _ _) hne _ _
    exact ((p2.set1 0 a (by simp)).set1 1 b (by simp)).set1 2 c (by simp)
  · have h := box_keepset (box_keepset (box_keepset q2 hne.symm 0 a) hne.symm 1 b) hne.symm 2 c
    exact ((h.set1 0 d (by simp)).set1 1 e (by simp)).set1 2 f (by simp)
  · exact (((((Below.setCell p3 (p := ⟨P, 0, none⟩) p1 a).setCell (p := ⟨P, 1, none⟩) p1 b).setCell (p := ⟨P, 2, none⟩) p1 c).setCell (p := ⟨Q, 0, none⟩) q1 d).setCell (p := ⟨Q, 1, none⟩) q1 e).setCell (p := ⟨Q, 2, none⟩) q1 f

set_option maxHeartbeats 4000000 in
set_option maxRecDepth 100000 in
theorem cli_any (a : Option Addr) (n c : Nat) (b : Option Addr) (m d : Nat) (xs ys : List Int) (w : World) (hx : Els .i64 w (.slice a n c) xs) (hy : Els .i64 w (.slice b m d) ys) (hn : n ≤ 1000000000) (hm : m ≤ 1000000000) :
    Calls Tryz.prog 56 #[.slice a n c, .slice b m d, .func (.func 57) #[] #[]] w fun e w' => e = .returned (.int .i64 (lexL cmpI xs ys)) ∧ Below w.heap.size w w' := by
  have hq : ∃ q : Nat, q ≤ n ∧ q ≤ m ∧ (q = n ∨ q = m) ∧ ((n : Int) ≤ m ∧ min (n : Int) m = q ∨ ¬ (n : Int) ≤ m ∧ min (n : Int) m = q) := by
    by_cases h : n ≤ m
    · exact ⟨n, by omega, by omega, .inl rfl, .inl ⟨by omega, by omega⟩⟩
    · exact ⟨m, by omega, by omega, .inr rfl, .inr ⟨by omega, by omega⟩⟩
  obtain ⟨q, hq1, hq2, hq3, hq4⟩ := hq
  have HX := Lib.hid hx
  have HY := Lib.hid hy
  have HXN := Lib.hid hx.len
  have HYN := Lib.hid hy.len
  have HQ : Hid (q = n ∨ q = m) := Lib.hid hq3
  have hst : lexL cmpI (xs.drop 0) (ys.drop 0) = lexL cmpI xs ys := rfl
  generalize lexL cmpI xs ys = R at *
  have HST := Lib.hid hst
  have KC := Lib.hid fun (x y : Int) W => cmpc_any x y W
  have HS0 : Hid (Since w w) := Lib.hid (Below.refl _ _)
  clear hx hy hq3 hst
  rcases hq4 with ⟨hle, hmin⟩ | ⟨hle, hmin⟩
  all_goals
    go_enter Tryz.func56, Tryz.ntmps56
    go_wp2
    go_loopw [14] (fun x wr => ∃ k : Nat, k ≤ q ∧ x = .int .i64 k ∧ Hid (lexL cmpI (xs.drop k) (ys.drop k) = R) ∧ Hid (Since w wr)) (fun x _ => q - (intOf x).toNat)
    case atStart => exact ⟨0, by omega, rfl, HST, HS0⟩
    case round =>
      obtain ⟨k, hk, rfl, hV, hS⟩ := hrel
      by_cases hlt : k < q
      · have i1 : (k : Int) < q := by omega
        have i2 : k < n := by omega
        have i3 : k < m := by omega
        have i4 : (k : Int) < n := by omega
        have i5 : (k : Int) < m := by omega
        obtain ⟨g1, o1, rfl, p1⟩ := (HX.out.below (Below.toBelow hS.out)).at k i2
        obtain ⟨g2, o2, rfl, p2⟩ := (HY.out.below (Below.toBelow hS.out)).at k i3
        have hx : xs[k]? = some (xs[k]?.getD 0) := by rw [List.getElem?_eq_getElem (by have := HXN.out; omega)]; rfl
        have hy : ys[k]? = some (ys[k]?.getD 0) := by rw [List.getElem?_eq_getElem (by have := HYN.out; omega)]; rfl
        generalize xs[k]?.getD 0 = x at *
        generalize ys[k]?.getD 0 = y at *
        have hstep := lexL_step cmpI hx hy
        have KQ := Lib.hid fun W => KC.out x y W
        generalize cmpI x y = v at *
        rw [hV.out] at hstep
        have hSd : Since wr wr.drew := Below.drew (Below.refl _ _)
        by_cases hv : v = 0
        · subst hv
          rw [if_pos rfl] at hstep
          have HV := Lib.hid hstep.symm
          clear hstep hx hy hV
          go_wp2_with fail
          go_region_held3 (fun w' => w'.cell? ⟨g1, o1 + k, none⟩ = some (.int .i64 x) ∧ w'.cell? ⟨g2, o2 + k, none⟩ = some (.int .i64 y) ∧ Since wr w')
            (exact ⟨p1, p2, hSd⟩)
            ((go_at_call 57; refine (KQ.out _).mono ?_; rintro e w' ⟨rfl, rfl⟩))
          go_wp2
          go_roundw
          case rel => exact ⟨k + 1, by omega, by go_num, HV, Lib.hid (Since.step hS.out hSd)⟩
          case measure => simp [intOf]; omega
        · rw [if_neg hv] at hstep
          have HV := Lib.hid hstep
          have hv2 : (v != 0) = true := bne_iff_ne.2 hv
          clear hstep hx hy hV hv
          go_wp2_with fail
          go_region_held3 (fun w' => w'.cell? ⟨g1, o1 + k, none⟩ = some (.int .i64 x) ∧ w'.cell? ⟨g2, o2 + k, none⟩ = some (.int .i64 y) ∧ Since wr w')
            (exact ⟨p1, p2, hSd⟩)
            ((go_at_call 57; refine (KQ.out _).mono ?_; rintro e w' ⟨rfl, rfl⟩))
          go_wp2
          go_ret
          exact ⟨ret_int HV.out.symm, Since.step hS.out hSd⟩
      · have i1 : ¬ (k : Int) < q := by omega
        have hend := lexL_stop cmpI (la := xs) (bs := ys) (k := k) (by have := HXN.out; omega) (by have := HYN.out; omega) (by have := HXN.out; have := HYN.out; have := HQ.out; omega)
        rw [← HXN.out, ← HYN.out, hV.out] at hend
        have HV := Lib.hid hend
        have KE := Lib.hid fun W => KC.out (n : Int) (m : Int) W
        clear hend hV
        go_wp2_with fail
        refine (KE.out _).mono ?_
        rintro e w2 ⟨rfl, rfl⟩
        go_wp2
        go_ret
        exact ⟨ret_int HV.out.symm, hS.out⟩

set_option maxHeartbeats 1000000 in
set_option maxRecDepth 100000 in
theorem numbers_any (t n d : Int) (w : World) :
    Calls Tryz.prog 68 #[.agg #[.int .i64 t, .int .i64 n, .int .i64 d]] w fun e w' => e = .returned (.agg #[.int .i64 t, .int .i64 n, .int .i64 d]) ∧ Below w.heap.size w w' := by
  go_enter Tryz.func68, Tryz.ntmps68
  go_wp2
  exact bodyPost_ret (v := .agg #[.int .i64 t, .int .i64 n, .int .i64 d]) (by simp [results, Tryz.results68, go_sem]) rfl ⟨rfl, ((Below.refl _ _).alloc (Nat.le_refl _) _).alloc (by simp) _⟩

set_option maxHeartbeats 8000000 in
set_option maxRecDepth 100000 in
theorem cmpv_any (v u : Va) (w : World) :
    Calls Tryz.prog 38 #[v.v, u.v] w fun e w' => e = .returned (.int .i64 (vcmp v u)) ∧ Below w.heap.size w w' := by
  unfold Va.v
  have hR : lexL cmpI [v.t, v.n, v.d] [u.t, u.n, u.d] = vcmp v u := rfl
  generalize vcmp v u = R at *
  obtain ⟨vt, vn, vd⟩ := v
  obtain ⟨ut, un, ud⟩ := u
  simp only at *
  have KN := Lib.hid fun (t n d : Int) W => numbers_any t n d W
  have KL := Lib.hid fun (P Q : Nat) W (hx : BoxL P [.int .i64 vt, .int .i64 vn, .int .i64 vd] W) (hy : BoxL Q [.int .i64 ut, .int .i64 un, .int .i64 ud] W) => cli_any (some ⟨P, 0, none⟩) 3 3 (some ⟨Q, 0, none⟩) 3 3 _ _ W (els3 hx) (els3 hy) (by omega) (by omega)
  rw [hR] at KL
  obtain ⟨W1, hW1⟩ : ∃ W1, W1 = (w.alloc (.cells #[.int .i64 vt, .int .i64 vn, .int .i64 vd] 46)).alloc (.cells #[.int .i64 ut, .int .i64 un, .int .i64 ud] 46) := ⟨_, rfl⟩
  have hX : BoxL w.heap.size [.int .i64 vt, .int .i64 vn, .int .i64 vd] W1 := by rw [hW1]; exact (BoxL.made w _ _).under _
  have hY : BoxL (w.heap.size + 1) [.int .i64 ut, .int .i64 un, .int .i64 ud] W1 := by
    rw [hW1]
    have := BoxL.made (w.alloc (.cells #[.int .i64 vt, .int .i64 vn, .int .i64 vd] 46)) #[.int .i64 ut, .int .i64 un, .int .i64 ud] 46
    rwa [World.size_alloc] at this
  have hB : Below w.heap.size w W1 := by rw [hW1]; exact ((Below.refl _ _).alloc (Nat.le_refl _) _).alloc (by simp) _
  have HB1 := Lib.hid hB
  obtain ⟨x0, x1, x2, -⟩ := hX.open3
  obtain ⟨y0, y1, y2, -⟩ := hY.open3
  clear hR hB hX hY
  go_enter Tryz.func38, Tryz.ntmps38
  go_upto_region 1 with (fail)
  rw [← hW1]
  generalize w.heap.size + 1 = N1 at *
  clear hW1
  go_cut [5, 6] (fun s t wx => Both3 W1 [.int .i64 vt, .int .i64 vn, .int .i64 vd] [.int .i64 ut, .int .i64 un, .int .i64 ud] s t wx)
  case first =>
    refine wp_region_noPanic ?_
    refine wp_region_held_drew (S := fun w' => w'.cell? ⟨w.heap.size, 0, none⟩ = some (.int .i64 vt) ∧ w'.cell? ⟨w.heap.size, 1, none⟩ = some (.int .i64 vn) ∧ w'.cell? ⟨w.heap.size, 2, none⟩ = some (.int .i64 vd) ∧ w'.cell? ⟨N1, 0, none⟩ = some (.int .i64 ut) ∧ w'.cell? ⟨N1, 1, none⟩ = some (.int .i64 un) ∧ w'.cell? ⟨N1, 2, none⟩ = some (.int .i64 ud) ∧ Since W1 w') (by kernel_rfl) (by (with_reducible refine ⟨Since.cell ?_ x0, Since.cell ?_ x1, Since.cell ?_ x2, Since.cell ?_ y0, Since.cell ?_ y1, Since.cell ?_ y2, ?_⟩) <;> (repeat (first | with_reducible assumption | with_reducible exact Since.refl _ | with_reducible refine Since.alloc ?_ _ | with_reducible refine Since.drew ?_ | with_reducible refine since_set ?_ ?_ _ _))) (fun hHeld => ?_)
    refine wpAnyH_take (i := 0) (oi := ⟨some 7, Op.load 46 (Operand.tmp 2), 46, _, _, none⟩) (v := ?_) rfl (by kernel_rfl) (by kernel_rfl) (by kernel_rfl) (fun _ _ _ h => h) (Or.inl ⟨by rfl, ?_⟩) (by assumption) ?_
    rotate_left 1
    · (intro w hSw; (try dsimp only at hSw); go_simp; first | done | with_reducible rfl)
    try simp only [Act.put, List.setIfInBounds_toArray, List.set_cons_zero, List.set_cons_succ]
    refine wpAnyH_take (i := 2) (oi := ⟨some 9, Op.load 46 (Operand.tmp 3), 46, _, _, none⟩) (v := ?_) rfl (by kernel_rfl) (by kernel_rfl) (by kernel_rfl) (fun _ _ _ h => h) (Or.inl ⟨by rfl, ?_⟩) (by assumption) ?_
    rotate_left 1
    · (intro w hSw; (try dsimp only at hSw); go_simp; first | done | with_reducible rfl)
    try simp only [Act.put, List.setIfInBounds_toArray, List.set_cons_zero, List.set_cons_succ]
    refine wpAnyH_ready (rs := [1, 4, 5]) (by kernel_rfl) (by simp) ?_
    refine AllReadyH.cons (o := ⟨some 8, Op.call { callee := Callee.value (Operand.func 68), args := #[Operand.tmp 7], argTypes := #[46] }, 89, _, _, none⟩) rfl (fun K hK => ?_) (AllReadyH.cons (o := ⟨some 5, Op.alloc 89, 0, _, _, none⟩) rfl (fun K hK => ?_) (AllReadyH.cons (o := ⟨some 6, Op.alloc 89, 0, _, _, none⟩) rfl (fun K hK => ?_) AllReadyH.nil))
    · go_simp
      go_at_call 68
      refine (KN.out _ _ _ _).mono ?_
      rintro e v1 ⟨rfl, hr⟩
      have hs1 : Since W1 v1 := by (with_reducible refine Since.step ?_ hr); (repeat (first | with_reducible assumption | with_reducible exact Since.refl _ | with_reducible refine Since.alloc ?_ _ | with_reducible refine Since.drew ?_ | with_reducible refine since_set ?_ ?_ _ _))
      clear hr
      try go_wp2_with fail
      refine hK.out _ _ ?_ (fun hHeld => ?_)
      · (with_reducible refine ⟨Since.cell ?_ x0, Since.cell ?_ x1, Since.cell ?_ x2, Since.cell ?_ y0, Since.cell ?_ y1, Since.cell ?_ y2, ?_⟩) <;> (repeat (first | with_reducible assumption | with_reducible exact Since.refl _ | with_reducible refine Since.alloc ?_ _ | with_reducible refine Since.drew ?_ | with_reducible refine since_set ?_ ?_ _ _))
      clear hK K
      try simp only [Act.put, List.setIfInBounds_toArray, List.set_cons_zero, List.set_cons_succ]
      refine wpAnyH_ready (rs := [3, 4, 5]) (by kernel_rfl) (by simp) ?_
      refine AllReadyH.cons (o := ⟨some 10, Op.call { callee := Callee.value (Operand.func 68), args := #[Operand.tmp 9], argTypes := #[46] }, 89, _, _, none⟩) rfl (fun K hK => ?_) (AllReadyH.cons (o := ⟨some 5, Op.alloc 89, 0, _, _, none⟩) rfl (fun K hK => ?_) (AllReadyH.cons (o := ⟨some 6, Op.alloc 89, 0, _, _, none⟩) rfl (fun K hK => ?_) AllReadyH.nil))
      · go_simp
        go_at_call 68
        refine (KN.out _ _ _ _).mono ?_
        rintro e v2 ⟨rfl, hr⟩
        have hs2 : Since W1 v2 := by (with_reducible refine Since.step ?_ hr); (repeat (first | with_reducible assumption | with_reducible exact Since.refl _ | with_reducible refine Since.alloc ?_ _ | with_reducible refine Since.drew ?_ | with_reducible refine since_set ?_ ?_ _ _))
        clear hr
        try go_wp2_with fail
        refine hK.out _ _ ?_ (fun hHeld => ?_)
        · (with_reducible refine ⟨Since.cell ?_ x0, Since.cell ?_ x1, Since.cell ?_ x2, Since.cell ?_ y0, Since.cell ?_ y1, Since.cell ?_ y2, ?_⟩) <;> (repeat (first | with_reducible assumption | with_reducible exact Since.refl _ | with_reducible refine Since.alloc ?_ _ | with_reducible refine Since.drew ?_ | with_reducible refine since_set ?_ ?_ _ _))
        clear hK K
        try simp only [Act.put, List.setIfInBounds_toArray, List.set_cons_zero, List.set_cons_succ]
        refine wpAnyH_ready (rs := [4, 5]) (by kernel_rfl) (by simp) ?_
        refine AllReadyH.cons (o := ⟨some 5, Op.alloc 89, 0, _, _, none⟩) rfl (fun K hK => ?_) (AllReadyH.cons (o := ⟨some 6, Op.alloc 89, 0, _, _, none⟩) rfl (fun K hK => ?_) AllReadyH.nil)
        · go_simp
          try go_wp2_with fail
          refine hK.out _ _ ?_ (fun hHeld => ?_)
          · (with_reducible refine ⟨Since.cell ?_ x0, Since.cell ?_ x1, Since.cell ?_ x2, Since.cell ?_ y0, Since.cell ?_ y1, Since.cell ?_ y2, ?_⟩) <;> (repeat (first | with_reducible assumption | with_reducible exact Since.refl _ | with_reducible refine Since.alloc ?_ _ | with_reducible refine Since.drew ?_ | with_reducible refine since_set ?_ ?_ _ _))
          clear hK K
          try simp only [Act.put, List.setIfInBounds_toArray, List.set_cons_zero, List.set_cons_succ]
          obtain ⟨v3, hv3⟩ : ∃ v, v = World.alloc v2 (.cells #[.int .i64 0, .int .i64 0, .int .i64 0] 89) := ⟨_, rfl⟩
          obtain ⟨u3, hu3⟩ : ∃ v, v = World.alloc (World.drew v2) (.cells #[.int .i64 0, .int .i64 0, .int .i64 0] 89) := ⟨_, rfl⟩
          have hN0 : NewBox W1 [.int .i64 0, .int .i64 0, .int .i64 0] (World.heap v2).size v3 := by rw [hv3]; exact NewBox.made hs2 _ _
          have hM0 : NewBox W1 [.int .i64 0, .int .i64 0, .int .i64 0] (World.heap v2).size u3 := by rw [hu3]; exact NewBox.made (Since.drew hs2) _ _
          have hs3 : Since W1 v3 := hN0.2.2
          have hq3 : Since W1 u3 := hM0.2.2
          first | (rw [← hv3]; generalize v3 = y3 at *; have hsy3 := hs3; clear hu3 hM0 hq3 hs3 hv3) | (rw [← hu3]; clear hN0; have hN0 := hM0; generalize u3 = y3 at *; have hsy3 := hq3; clear hv3 hM0 hq3 hu3)
          refine wpAnyH_ready (rs := [5]) (by kernel_rfl) (by simp) ?_
          refine AllReadyH.cons (o := ⟨some 6, Op.alloc 89, 0, _, _, none⟩) rfl (fun K hK => ?_) AllReadyH.nil
          go_simp
          try go_wp2_with fail
          refine hK.out _ _ ?_ (fun hHeld => ?_)
          · (with_reducible refine ⟨Since.cell ?_ x0, Since.cell ?_ x1, Since.cell ?_ x2, Since.cell ?_ y0, Since.cell ?_ y1, Since.cell ?_ y2, ?_⟩) <;> (repeat (first | with_reducible assumption | with_reducible exact Since.refl _ | with_reducible refine Since.alloc ?_ _ | with_reducible refine Since.drew ?_ | with_reducible refine since_set ?_ ?_ _ _))
          clear hK K
          try simp only [Act.put, List.setIfInBounds_toArray, List.set_cons_zero, List.set_cons_succ]
          obtain ⟨v4, hv4⟩ : ∃ v, v = World.alloc y3 (.cells #[.int .i64 0, .int .i64 0, .int .i64 0] 89) := ⟨_, rfl⟩
          obtain ⟨u4, hu4⟩ : ∃ v, v = World.alloc (World.drew y3) (.cells #[.int .i64 0, .int .i64 0, .int .i64 0] 89) := ⟨_, rfl⟩
          have hT0 : TwoBox W1 [.int .i64 0, .int .i64 0, .int .i64 0] (World.heap v2).size (World.heap y3).size v4 := by rw [hv4]; exact TwoBox.madeQ hN0 _
          have hU0 : TwoBox W1 [.int .i64 0, .int .i64 0, .int .i64 0] (World.heap v2).size (World.heap y3).size u4 := by rw [hu4]; exact TwoBox.madeQ (NewBox.drew hN0) _
          have hs4 : Since W1 v4 := hT0.1.2.2
          have hq4 : Since W1 u4 := hU0.1.2.2
          first | (rw [← hv4]; generalize v4 = y4 at *; have hsy4 := hs4; clear hu4 hU0 hq4 hs4 hv4) | (rw [← hu4]; clear hT0; have hT0 := hU0; generalize u4 = y4 at *; have hsy4 := hq4; clear hv4 hU0 hq4 hu4)
          clear hN0
          have hT := hT0
          obtain ⟨b1_0, b1_1, b1_2, g1_0, g1_1, g1_2, -⟩ := hT.1.2.1.open3
          obtain ⟨b2_0, b2_1, b2_2, g2_0, g2_1, g2_2, -⟩ := hT.2.1.2.1.open3
          have hp1 := hT.1.1
          have hp2 := hT.2.1.1
          have hne := hT.2.2
          have hne2 := hT.2.2.symm
          refine wpAnyH_ready (rs := [6]) (by kernel_rfl) (by simp) ?_
          refine AllReadyH.cons (o := ⟨none, Op.store 89 (Operand.tmp 5) (Operand.tmp 8), 0, _, _, none⟩) rfl (fun K hK => ?_) AllReadyH.nil
          go_simp
          go_wp2_with fail
          refine hK.out _ _ ?_ (fun hHeld => ?_)
          · (with_reducible refine ⟨Since.cell ?_ x0, Since.cell ?_ x1, Since.cell ?_ x2, Since.cell ?_ y0, Since.cell ?_ y1, Since.cell ?_ y2, ?_⟩) <;> (repeat (first | with_reducible assumption | with_reducible exact Since.refl _ | with_reducible refine Since.alloc ?_ _ | with_reducible refine Since.drew ?_ | with_reducible refine since_set ?_ ?_ _ _))
          clear hK K
          try simp only [Act.put, List.setIfInBounds_toArray, List.set_cons_zero, List.set_cons_succ]
          refine wpAnyH_ready (rs := [7]) (by kernel_rfl) (by simp) ?_
          refine AllReadyH.cons (o := ⟨none, Op.store 89 (Operand.tmp 6) (Operand.tmp 10), 0, _, _, none⟩) rfl (fun K hK => ?_) AllReadyH.nil
          go_simp
          go_wp2_with fail
          refine hK.out _ _ ?_ (fun hHeld => ?_)
          · (with_reducible refine ⟨Since.cell ?_ x0, Since.cell ?_ x1, Since.cell ?_ x2, Since.cell ?_ y0, Since.cell ?_ y1, Since.cell ?_ y2, ?_⟩) <;> (repeat (first | with_reducible assumption | with_reducible exact Since.refl _ | with_reducible refine Since.alloc ?_ _ | with_reducible refine Since.drew ?_ | with_reducible refine since_set ?_ ?_ _ _))
          clear hK K
          try simp only [Act.put, List.setIfInBounds_toArray, List.set_cons_zero, List.set_cons_succ]
          refine wpAnyH_done (by kernel_rfl) ?_ _
          refine NoPanic.normal ?_
          go_wp2_with fail
          go_meet
          exact TwoBox.put (z := .int .i64 0) hT
        · go_simp
          try go_wp2_with fail
          refine hK.out _ _ ?_ (fun hHeld => ?_)
          · (with_reducible refine ⟨Since.cell ?_ x0, Since.cell ?_ x1, Since.cell ?_ x2, Since.cell ?_ y0, Since.cell ?_ y1, Since.cell ?_ y2, ?_⟩) <;> (repeat (first | with_reducible assumption | with_reducible exact Since.refl _ | with_reducible refine Since.alloc ?_ _ | with_reducible refine Since.drew ?_ | with_reducible refine since_set ?_ ?_ _ _))
          clear hK K
          try simp only [Act.put, List.setIfInBounds_toArray, List.set_cons_zero, List.set_cons_succ]
          obtain ⟨v5, hv5⟩ : ∃ v, v = World.alloc v2 (.cells #[.int .i64 0, .int .i64 0, .int .i64 0] 89) := ⟨_, rfl⟩
          obtain ⟨u5, hu5⟩ : ∃ v, v = World.alloc (World.drew v2) (.cells #[.int .i64 0, .int .i64 0, .int .i64 0] 89) := ⟨_, rfl⟩
          have hN0 : NewBox W1 [.int .i64 0, .int .i64 0, .int .i64 0] (World.heap v2).size v5 := by rw [hv5]; exact NewBox.made hs2 _ _
          have hM0 : NewBox W1 [.int .i64 0, .int .i64 0, .int .i64 0] (World.heap v2).size u5 := by rw [hu5]; exact NewBox.made (Since.drew hs2) _ _
          have hs5 : Since W1 v5 := hN0.2.2
          have hq5 : Since W1 u5 := hM0.2.2
          first | (rw [← hv5]; generalize v5 = y5 at *; have hsy5 := hs5; clear hu5 hM0 hq5 hs5 hv5) | (rw [← hu5]; clear hN0; have hN0 := hM0; generalize u5 = y5 at *; have hsy5 := hq5; clear hv5 hM0 hq5 hu5)
          refine wpAnyH_ready (rs := [4]) (by kernel_rfl) (by simp) ?_
          refine AllReadyH.cons (o := ⟨some 5, Op.alloc 89, 0, _, _, none⟩) rfl (fun K hK => ?_) AllReadyH.nil
          go_simp
          try go_wp2_with fail
          refine hK.out _ _ ?_ (fun hHeld => ?_)
          · (with_reducible refine ⟨Since.cell ?_ x0, Since.cell ?_ x1, Since.cell ?_ x2, Since.cell ?_ y0, Since.cell ?_ y1, Since.cell ?_ y2, ?_⟩) <;> (repeat (first | with_reducible assumption | with_reducible exact Since.refl _ | with_reducible refine Since.alloc ?_ _ | with_reducible refine Since.drew ?_ | with_reducible refine since_set ?_ ?_ _ _))
          clear hK K
          try simp only [Act.put, List.setIfInBounds_toArray, List.set_cons_zero, List.set_cons_succ]
          obtain ⟨v6, hv6⟩ : ∃ v, v = World.alloc y5 (.cells #[.int .i64 0, .int .i64 0, .int .i64 0] 89) := ⟨_, rfl⟩
          obtain ⟨u6, hu6⟩ : ∃ v, v = World.alloc (World.drew y5) (.cells #[.int .i64 0, .int .i64 0, .int .i64 0] 89) := ⟨_, rfl⟩
          have hT0 : TwoBox W1 [.int .i64 0, .int .i64 0, .int .i64 0] (World.heap v2).size (World.heap y5).size v6 := by rw [hv6]; exact TwoBox.madeQ hN0 _
          have hU0 : TwoBox W1 [.int .i64 0, .int .i64 0, .int .i64 0] (World.heap v2).size (World.heap y5).size u6 := by rw [hu6]; exact TwoBox.madeQ (NewBox.drew hN0) _
          have hs6 : Since W1 v6 := hT0.1.2.2
          have hq6 : Since W1 u6 := hU0.1.2.2
          first | (rw [← hv6]; generalize v6 = y6 at *; have hsy6 := hs6; clear hu6 hU0 hq6 hs6 hv6) | (rw [← hu6]; clear hT0; have hT0 := hU0; generalize u6 = y6 at *; have hsy6 := hq6; clear hv6 hU0 hq6 hu6)
          clear hN0
          have hT := hT0.symm
          obtain ⟨b1_0, b1_1, b1_2, g1_0, g1_1, g1_2, -⟩ := hT.1.2.1.open3
          obtain ⟨b2_0, b2_1, b2_2, g2_0, g2_1, g2_2, -⟩ := hT.2.1.2.1.open3
          have hp1 := hT.1.1
          have hp2 := hT.2.1.1
          have hne := hT.2.2
          have hne2 := hT.2.2.symm
          refine wpAnyH_ready (rs := [6]) (by kernel_rfl) (by simp) ?_
          refine AllReadyH.cons (o := ⟨none, Op.store 89 (Operand.tmp 5) (Operand.tmp 8), 0, _, _, none⟩) rfl (fun K hK => ?_) AllReadyH.nil
          go_simp
          go_wp2_with fail
          refine hK.out _ _ ?_ (fun hHeld => ?_)
          · (with_reducible refine ⟨Since.cell ?_ x0, Since.cell ?_ x1, Since.cell ?_ x2, Since.cell ?_ y0, Since.cell ?_ y1, Since.cell ?_ y2, ?_⟩) <;> (repeat (first | with_reducible assumption | with_reducible exact Since.refl _ | with_reducible refine Since.alloc ?_ _ | with_reducible refine Since.drew ?_ | with_reducible refine since_set ?_ ?_ _ _))
          clear hK K
          try simp only [Act.put, List.setIfInBounds_toArray, List.set_cons_zero, List.set_cons_succ]
          refine wpAnyH_ready (rs := [7]) (by kernel_rfl) (by simp) ?_
          refine AllReadyH.cons (o := ⟨none, Op.store 89 (Operand.tmp 6) (Operand.tmp 10), 0, _, _, none⟩) rfl (fun K hK => ?_) AllReadyH.nil
          go_simp
          go_wp2_with fail
          refine hK.out _ _ ?_ (fun hHeld => ?_)
          · (with_reducible refine ⟨Since.cell ?_ x0, Since.cell ?_ x1, Since.cell ?_ x2, Since.cell ?_ y0, Since.cell ?_ y1, Since.cell ?_ y2, ?_⟩) <;> (repeat (first | with_reducible assumption | with_reducible exact Since.refl _ | with_reducible refine Since.alloc ?_ _ | with_reducible refine Since.drew ?_ | with_reducible refine since_set ?_ ?_ _ _))
          clear hK K
          try simp only [Act.put, List.setIfInBounds_toArray, List.set_cons_zero, List.set_cons_succ]
          refine wpAnyH_done (by kernel_rfl) ?_ _
          refine NoPanic.normal ?_
          go_wp2_with fail
          go_meet
          exact TwoBox.put (z := .int .i64 0) hT
      · go_simp
        try go_wp2_with fail
        refine hK.out _ _ ?_ (fun hHeld => ?_)
        · (with_reducible refine ⟨Since.cell ?_ x0, Since.cell ?_ x1, Since.cell ?_ x2, Since.cell ?_ y0, Since.cell ?_ y1, Since.cell ?_ y2, ?_⟩) <;> (repeat (first | with_reducible assumption | with_reducible exact Since.refl _ | with_reducible refine Since.alloc ?_ _ | with_reducible refine Since.drew ?_ | with_reducible refine since_set ?_ ?_ _ _))
        clear hK K
        try simp only [Act.put, List.setIfInBounds_toArray, List.set_cons_zero, List.set_cons_succ]
        obtain ⟨v7, hv7⟩ : ∃ v, v = World.alloc v1 (.cells #[.int .i64 0, .int .i64 0, .int .i64 0] 89) := ⟨_, rfl⟩
        obtain ⟨u7, hu7⟩ : ∃ v, v = World.alloc (World.drew v1) (.cells #[.int .i64 0, .int .i64 0, .int .i64 0] 89) := ⟨_, rfl⟩
        have hN0 : NewBox W1 [.int .i64 0, .int .i64 0, .int .i64 0] (World.heap v1).size v7 := by rw [hv7]; exact NewBox.made hs1 _ _
        have hM0 : NewBox W1 [.int .i64 0, .int .i64 0, .int .i64 0] (World.heap v1).size u7 := by rw [hu7]; exact NewBox.made (Since.drew hs1) _ _
        have hs7 : Since W1 v7 := hN0.2.2
        have hq7 : Since W1 u7 := hM0.2.2
        first | (rw [← hv7]; generalize v7 = y7 at *; have hsy7 := hs7; clear hu7 hM0 hq7 hs7 hv7) | (rw [← hu7]; clear hN0; have hN0 := hM0; generalize u7 = y7 at *; have hsy7 := hq7; clear hv7 hM0 hq7 hu7)
        refine wpAnyH_ready (rs := [3, 5]) (by kernel_rfl) (by simp) ?_
        refine AllReadyH.cons (o := ⟨some 10, Op.call { callee := Callee.value (Operand.func 68), args := #[Operand.tmp 9], argTypes := #[46] }, 89, _, _, none⟩) rfl (fun K hK => ?_) (AllReadyH.cons (o := ⟨some 6, Op.alloc 89, 0, _, _, none⟩) rfl (fun K hK => ?_) AllReadyH.nil)
        · go_simp
          go_at_call 68
          refine (KN.out _ _ _ _).mono ?_
          rintro e v8 ⟨rfl, hr⟩
          have hs8 : Since W1 v8 := by (with_reducible refine Since.step ?_ hr); (repeat (first | with_reducible assumption | with_reducible exact Since.refl _ | with_reducible refine Since.alloc ?_ _ | with_reducible refine Since.drew ?_ | with_reducible refine since_set ?_ ?_ _ _))
          first | have hN0 := hN0.step hr | have hN0 := (NewBox.drew hN0).step hr
          clear hr
          try go_wp2_with fail
          refine hK.out _ _ ?_ (fun hHeld => ?_)
          · (with_reducible refine ⟨Since.cell ?_ x0, Since.cell ?_ x1, Since.cell ?_ x2, Since.cell ?_ y0, Since.cell ?_ y1, Since.cell ?_ y2, ?_⟩) <;> (repeat (first | with_reducible assumption | with_reducible exact Since.refl _ | with_reducible refine Since.alloc ?_ _ | with_reducible refine Since.drew ?_ | with_reducible refine since_set ?_ ?_ _ _))
          clear hK K
          try simp only [Act.put, List.setIfInBounds_toArray, List.set_cons_zero, List.set_cons_succ]
          refine wpAnyH_ready (rs := [5]) (by kernel_rfl) (by simp) ?_
          refine AllReadyH.cons (o := ⟨some 6, Op.alloc 89, 0, _, _, none⟩) rfl (fun K hK => ?_) AllReadyH.nil
          go_simp
          try go_wp2_with fail
          refine hK.out _ _ ?_ (fun hHeld => ?_)
          · (with_reducible refine ⟨Since.cell ?_ x0, Since.cell ?_ x1, Since.cell ?_ x2, Since.cell ?_ y0, Since.cell ?_ y1, Since.cell ?_ y2, ?_⟩) <;> (repeat (first | with_reducible assumption | with_reducible exact Since.refl _ | with_reducible refine Since.alloc ?_ _ | with_reducible refine Since.drew ?_ | with_reducible refine since_set ?_ ?_ _ _))
          clear hK K
          try simp only [Act.put, List.setIfInBounds_toArray, List.set_cons_zero, List.set_cons_succ]
          obtain ⟨v9, hv9⟩ : ∃ v, v = World.alloc v8 (.cells #[.int .i64 0, .int .i64 0, .int .i64 0] 89) := ⟨_, rfl⟩
          obtain ⟨u9, hu9⟩ : ∃ v, v = World.alloc (World.drew v8) (.cells #[.int .i64 0, .int .i64 0, .int .i64 0] 89) := ⟨_, rfl⟩
          have hT0 : TwoBox W1 [.int .i64 0, .int .i64 0, .int .i64 0] (World.heap v1).size (World.heap v8).size v9 := by rw [hv9]; exact TwoBox.madeQ hN0 _
          have hU0 : TwoBox W1 [.int .i64 0, .int .i64 0, .int .i64 0] (World.heap v1).size (World.heap v8).size u9 := by rw [hu9]; exact TwoBox.madeQ (NewBox.drew hN0) _
          have hs9 : Since W1 v9 := hT0.1.2.2
          have hq9 : Since W1 u9 := hU0.1.2.2
          first | (rw [← hv9]; generalize v9 = y9 at *; have hsy9 := hs9; clear hu9 hU0 hq9 hs9 hv9) | (rw [← hu9]; clear hT0; have hT0 := hU0; generalize u9 = y9 at *; have hsy9 := hq9; clear hv9 hU0 hq9 hu9)
          clear hN0
          have hT := hT0
          obtain ⟨b1_0, b1_1, b1_2, g1_0, g1_1, g1_2, -⟩ := hT.1.2.1.open3
          obtain ⟨b2_0, b2_1, b2_2, g2_0, g2_1, g2_2, -⟩ := hT.2.1.2.1.open3
          have hp1 := hT.1.1
          have hp2 := hT.2.1.1
          have hne := hT.2.2
          have hne2 := hT.2.2.symm
          refine wpAnyH_ready (rs := [6]) (by kernel_rfl) (by simp) ?_
          refine AllReadyH.cons (o := ⟨none, Op.store 89 (Operand.tmp 5) (Operand.tmp 8), 0, _, _, none⟩) rfl (fun K hK => ?_) AllReadyH.nil
          go_simp
          go_wp2_with fail
          refine hK.out _ _ ?_ (fun hHeld => ?_)
          · (with_reducible refine ⟨Since.cell ?_ x0, Since.cell ?_ x1, Since.cell ?_ x2, Since.cell ?_ y0, Since.cell ?_ y1, Since.cell ?_ y2, ?_⟩) <;> (repeat (first | with_reducible assumption | with_reducible exact Since.refl _ | with_reducible refine Since.alloc ?_ _ | with_reducible refine Since.drew ?_ | with_reducible refine since_set ?_ ?_ _ _))
          clear hK K
          try simp only [Act.put, List.setIfInBounds_toArray, List.set_cons_zero, List.set_cons_succ]
          refine wpAnyH_ready (rs := [7]) (by kernel_rfl) (by simp) ?_
          refine AllReadyH.cons (o := ⟨none, Op.store 89 (Operand.tmp 6) (Operand.tmp 10), 0, _, _, none⟩) rfl (fun K hK => ?_) AllReadyH.nil
          go_simp
          go_wp2_with fail
          refine hK.out _ _ ?_ (fun hHeld => ?_)
          · (with_reducible refine ⟨Since.cell ?_ x0, Since.cell ?_ x1, Since.cell ?_ x2, Since.cell ?_ y0, Since.cell ?_ y1, Since.cell ?_ y2, ?_⟩) <;> (repeat (first | with_reducible assumption | with_reducible exact Since.refl _ | with_reducible refine Since.alloc ?_ _ | with_reducible refine Since.drew ?_ | with_reducible refine since_set ?_ ?_ _ _))
          clear hK K
          try simp only [Act.put, List.setIfInBounds_toArray, List.set_cons_zero, List.set_cons_succ]
          refine wpAnyH_done (by kernel_rfl) ?_ _
          refine NoPanic.normal ?_
          go_wp2_with fail
          go_meet
          exact TwoBox.put (z := .int .i64 0) hT
        · go_simp
          try go_wp2_with fail
          refine hK.out _ _ ?_ (fun hHeld => ?_)
          · (with_reducible refine ⟨Since.cell ?_ x0, Since.cell ?_ x1, Since.cell ?_ x2, Since.cell ?_ y0, Since.cell ?_ y1, Since.cell ?_ y2, ?_⟩) <;> (repeat (first | with_reducible assumption | with_reducible exact Since.refl _ | with_reducible refine Since.alloc ?_ _ | with_reducible refine Since.drew ?_ | with_reducible refine since_set ?_ ?_ _ _))
          clear hK K
          try simp only [Act.put, List.setIfInBounds_toArray, List.set_cons_zero, List.set_cons_succ]
          obtain ⟨v10, hv10⟩ : ∃ v, v = World.alloc y7 (.cells #[.int .i64 0, .int .i64 0, .int .i64 0] 89) := ⟨_, rfl⟩
          obtain ⟨u10, hu10⟩ : ∃ v, v = World.alloc (World.drew y7) (.cells #[.int .i64 0, .int .i64 0, .int .i64 0] 89) := ⟨_, rfl⟩
          have hT0 : TwoBox W1 [.int .i64 0, .int .i64 0, .int .i64 0] (World.heap v1).size (World.heap y7).size v10 := by rw [hv10]; exact TwoBox.madeQ hN0 _
          have hU0 : TwoBox W1 [.int .i64 0, .int .i64 0, .int .i64 0] (World.heap v1).size (World.heap y7).size u10 := by rw [hu10]; exact TwoBox.madeQ (NewBox.drew hN0) _
          have hs10 : Since W1 v10 := hT0.1.2.2
          have hq10 : Since W1 u10 := hU0.1.2.2
          first | (rw [← hv10]; generalize v10 = y10 at *; have hsy10 := hs10; clear hu10 hU0 hq10 hs10 hv10) | (rw [← hu10]; clear hT0; have hT0 := hU0; generalize u10 = y10 at *; have hsy10 := hq10; clear hv10 hU0 hq10 hu10)
          clear hN0
          refine wpAnyH_ready (rs := [3]) (by kernel_rfl) (by simp) ?_
          refine AllReadyH.cons (o := ⟨some 10, Op.call { callee := Callee.value (Operand.func 68), args := #[Operand.tmp 9], argTypes := #[46] }, 89, _, _, none⟩) rfl (fun K hK => ?_) AllReadyH.nil
          go_simp
          go_at_call 68
          refine (KN.out _ _ _ _).mono ?_
          rintro e v11 ⟨rfl, hr⟩
          have hs11 : Since W1 v11 := by (with_reducible refine Since.step ?_ hr); (repeat (first | with_reducible assumption | with_reducible exact Since.refl _ | with_reducible refine Since.alloc ?_ _ | with_reducible refine Since.drew ?_ | with_reducible refine since_set ?_ ?_ _ _))
          first | have hT0 := hT0.step hr | have hT0 := (TwoBox.drew hT0).step hr
          clear hr
          try go_wp2_with fail
          refine hK.out _ _ ?_ (fun hHeld => ?_)
          · (with_reducible refine ⟨Since.cell ?_ x0, Since.cell ?_ x1, Since.cell ?_ x2, Since.cell ?_ y0, Since.cell ?_ y1, Since.cell ?_ y2, ?_⟩) <;> (repeat (first | with_reducible assumption | with_reducible exact Since.refl _ | with_reducible refine Since.alloc ?_ _ | with_reducible refine Since.drew ?_ | with_reducible refine since_set ?_ ?_ _ _))
          clear hK K
          try simp only [Act.put, List.setIfInBounds_toArray, List.set_cons_zero, List.set_cons_succ]
          have hT := hT0
          obtain ⟨b1_0, b1_1, b1_2, g1_0, g1_1, g1_2, -⟩ := hT.1.2.1.open3
          obtain ⟨b2_0, b2_1, b2_2, g2_0, g2_1, g2_2, -⟩ := hT.2.1.2.1.open3
          have hp1 := hT.1.1
          have hp2 := hT.2.1.1
          have hne := hT.2.2
          have hne2 := hT.2.2.symm
          refine wpAnyH_ready (rs := [6]) (by kernel_rfl) (by simp) ?_
          refine AllReadyH.cons (o := ⟨none, Op.store 89 (Operand.tmp 5) (Operand.tmp 8), 0, _, _, none⟩) rfl (fun K hK => ?_) AllReadyH.nil
          go_simp
          go_wp2_with fail
          refine hK.out _ _ ?_ (fun hHeld => ?_)
          · (with_reducible refine ⟨Since.cell ?_ x0, Since.cell ?_ x1, Since.cell ?_ x2, Since.cell ?_ y0, Since.cell ?_ y1, Since.cell ?_ y2, ?_⟩) <;> (repeat (first | with_reducible assumption | with_reducible exact Since.refl _ | with_reducible refine Since.alloc ?_ _ | with_reducible refine Since.drew ?_ | with_reducible refine since_set ?_ ?_ _ _))
          clear hK K
          try simp only [Act.put, List.setIfInBounds_toArray, List.set_cons_zero, List.set_cons_succ]
          refine wpAnyH_ready (rs := [7]) (by kernel_rfl) (by simp) ?_
          refine AllReadyH.cons (o := ⟨none, Op.store 89 (Operand.tmp 6) (Operand.tmp 10), 0, _, _, none⟩) rfl (fun K hK => ?_) AllReadyH.nil
          go_simp
          go_wp2_with fail
          refine hK.out _ _ ?_ (fun hHeld => ?_)
          · (with_reducible refine ⟨Since.cell ?_ x0, Since.cell ?_ x1, Since.cell ?_ x2, Since.cell ?_ y0, Since.cell ?_ y1, Since.cell ?_ y2, ?_⟩) <;> (repeat (first | with_reducible assumption | with_reducible exact Since.refl _ | with_reducible refine Since.alloc ?_ _ | with_reducible refine Since.drew ?_ | with_reducible refine since_set ?_ ?_ _ _))
          clear hK K
          try simp only [Act.put, List.setIfInBounds_toArray, List.set_cons_zero, List.set_cons_succ]
          refine wpAnyH_done (by kernel_rfl) ?_ _
          refine NoPanic.normal ?_
          go_wp2_with fail
          go_meet
          exact TwoBox.put (z := .int .i64 0) hT
      · go_simp
        try go_wp2_with fail
        refine hK.out _ _ ?_ (fun hHeld => ?_)
        · (with_reducible refine ⟨Since.cell ?_ x0, Since.cell ?_ x1, Since.cell ?_ x2, Since.cell ?_ y0, Since.cell ?_ y1, Since.cell ?_ y2, ?_⟩) <;> (repeat (first | with_reducible assumption | with_reducible exact Since.refl _ | with_reducible refine Since.alloc ?_ _ | with_reducible refine Since.drew ?_ | with_reducible refine since_set ?_ ?_ _ _))
        clear hK K
        try simp only [Act.put, List.setIfInBounds_toArray, List.set_cons_zero, List.set_cons_succ]
        obtain ⟨v12, hv12⟩ : ∃ v, v = World.alloc v1 (.cells #[.int .i64 0, .int .i64 0, .int .i64 0] 89) := ⟨_, rfl⟩
        obtain ⟨u12, hu12⟩ : ∃ v, v = World.alloc (World.drew v1) (.cells #[.int .i64 0, .int .i64 0, .int .i64 0] 89) := ⟨_, rfl⟩
        have hN0 : NewBox W1 [.int .i64 0, .int .i64 0, .int .i64 0] (World.heap v1).size v12 := by rw [hv12]; exact NewBox.made hs1 _ _
        have hM0 : NewBox W1 [.int .i64 0, .int .i64 0, .int .i64 0] (World.heap v1).size u12 := by rw [hu12]; exact NewBox.made (Since.drew hs1) _ _
        have hs12 : Since W1 v12 := hN0.2.2
        have hq12 : Since W1 u12 := hM0.2.2
        first | (rw [← hv12]; generalize v12 = y12 at *; have hsy12 := hs12; clear hu12 hM0 hq12 hs12 hv12) | (rw [← hu12]; clear hN0; have hN0 := hM0; generalize u12 = y12 at *; have hsy12 := hq12; clear hv12 hM0 hq12 hu12)
        refine wpAnyH_ready (rs := [3, 4]) (by kernel_rfl) (by simp) ?_
        refine AllReadyH.cons (o := ⟨some 10, Op.call { callee := Callee.value (Operand.func 68), args := #[Operand.tmp 9], argTypes := #[46] }, 89, _, _, none⟩) rfl (fun K hK => ?_) (AllReadyH.cons (o := ⟨some 5, Op.alloc 89, 0, _, _, none⟩) rfl (fun K hK => ?_) AllReadyH.nil)
        · go_simp
          go_at_call 68
          refine (KN.out _ _ _ _).mono ?_
          rintro e v13 ⟨rfl, hr⟩
          have hs13 : Since W1 v13 := by (with_reducible refine Since.step ?_ hr); (repeat (first | with_reducible assumption | with_reducible exact Since.refl _ | with_reducible refine Since.alloc ?_ _ | with_reducible refine Since.drew ?_ | with_reducible refine since_set ?_ ?_ _ _))
          first | have hN0 := hN0.step hr | have hN0 := (NewBox.drew hN0).step hr
          clear hr
          try go_wp2_with fail
          refine hK.out _ _ ?_ (fun hHeld => ?_)
          · (with_reducible refine ⟨Since.cell ?_ x0, Since.cell ?_ x1, Since.cell ?_ x2, Since.cell ?_ y0, Since.cell ?_ y1, Since.cell ?_ y2, ?_⟩) <;> (repeat (first | with_reducible assumption | with_reducible exact Since.refl _ | with_reducible refine Since.alloc ?_ _ | with_reducible refine Since.drew ?_ | with_reducible refine since_set ?_ ?_ _ _))
          clear hK K
          try simp only [Act.put, List.setIfInBounds_toArray, List.set_cons_zero, List.set_cons_succ]
          refine wpAnyH_ready (rs := [4]) (by kernel_rfl) (by simp) ?_
          refine AllReadyH.cons (o := ⟨some 5, Op.alloc 89, 0, _, _, none⟩) rfl (fun K hK => ?_) AllReadyH.nil
          go_simp
          try go_wp2_with fail
          refine hK.out _ _ ?_ (fun hHeld => ?_)
          · (with_reducible refine ⟨Since.cell ?_ x0, Since.cell ?_ x1, Since.cell ?_ x2, Since.cell ?_ y0, Since.cell ?_ y1, Since.cell ?_ y2, ?_⟩) <;> (repeat (first | with_reducible assumption | with_reducible exact Since.refl _ | with_reducible refine Since.alloc ?_ _ | with_reducible refine Since.drew ?_ | with_reducible refine since_set ?_ ?_ _ _))
          clear hK K
          try simp only [Act.put, List.setIfInBounds_toArray, List.set_cons_zero, List.set_cons_succ]
          obtain ⟨v14, hv14⟩ : ∃ v, v = World.alloc v13 (.cells #[.int .i64 0, .int .i64 0, .int .i64 0] 89) := ⟨_, rfl⟩
          obtain ⟨u14, hu14⟩ : ∃ v, v = World.alloc (World.drew v13) (.cells #[.int .i64 0, .int .i64 0, .int .i64 0] 89) := ⟨_, rfl⟩
          have hT0 : TwoBox W1 [.int .i64 0, .int .i64 0, .int .i64 0] (World.heap v1).size (World.heap v13).size v14 := by rw [hv14]; exact TwoBox.madeQ hN0 _
          have hU0 : TwoBox W1 [.int .i64 0, .int .i64 0, .int .i64 0] (World.heap v1).size (World.heap v13).size u14 := by rw [hu14]; exact TwoBox.madeQ (NewBox.drew hN0) _
          have hs14 : Since W1 v14 := hT0.1.2.2
          have hq14 : Since W1 u14 := hU0.1.2.2
          first | (rw [← hv14]; generalize v14 = y14 at *; have hsy14 := hs14; clear hu14 hU0 hq14 hs14 hv14) | (rw [← hu14]; clear hT0; have hT0 := hU0; generalize u14 = y14 at *; have hsy14 := hq14; clear hv14 hU0 hq14 hu14)
          clear hN0
          have hT := hT0.symm
          obtain ⟨b1_0, b1_1, b1_2, g1_0, g1_1, g1_2, -⟩ := hT.1.2.1.open3
          obtain ⟨b2_0, b2_1, b2_2, g2_0, g2_1, g2_2, -⟩ := hT.2.1.2.1.open3
          have hp1 := hT.1.1
          have hp2 := hT.2.1.1
          have hne := hT.2.2
          have hne2 := hT.2.2.symm
          refine wpAnyH_ready (rs := [6]) (by kernel_rfl) (by simp) ?_
          refine AllReadyH.cons (o := ⟨none, Op.store 89 (Operand.tmp 5) (Operand.tmp 8), 0, _, _, none⟩) rfl (fun K hK => ?_) AllReadyH.nil
          go_simp
          go_wp2_with fail
          refine hK.out _ _ ?_ (fun hHeld => ?_)
          · (with_reducible refine ⟨Since.cell ?_ x0, Since.cell ?_ x1, Since.cell ?_ x2, Since.cell ?_ y0, Since.cell ?_ y1, Since.cell ?_ y2, ?_⟩) <;> (repeat (first | with_reducible assumption | with_reducible exact Since.refl _ | with_reducible refine Since.alloc ?_ _ | with_reducible refine Since.drew ?_ | with_reducible refine since_set ?_ ?_ _ _))
          clear hK K
          try simp only [Act.put, List.setIfInBounds_toArray, List.set_cons_zero, List.set_cons_succ]
          refine wpAnyH_ready (rs := [7]) (by kernel_rfl) (by simp) ?_
          refine AllReadyH.cons (o := ⟨none, Op.store 89 (Operand.tmp 6) (Operand.tmp 10), 0, _, _, none⟩) rfl (fun K hK => ?_) AllReadyH.nil
          go_simp
          go_wp2_with fail
          refine hK.out _ _ ?_ (fun hHeld => ?_)
          · (with_reducible refine ⟨Since.cell ?_ x0, Since.cell ?_ x1, Since.cell ?_ x2, Since.cell ?_ y0, Since.cell ?_ y1, Since.cell ?_ y2, ?_⟩) <;> (repeat (first | with_reducible assumption | with_reducible exact Since.refl _ | with_reducible refine Since.alloc ?_ _ | with_reducible refine Since.drew ?_ | with_reducible refine since_set ?_ ?_ _ _))
          clear hK K
          try simp only [Act.put, List.setIfInBounds_toArray, List.set_cons_zero, List.set_cons_succ]
          refine wpAnyH_done (by kernel_rfl) ?_ _
          refine NoPanic.normal ?_
          go_wp2_with fail
          go_meet
          exact TwoBox.put (z := .int .i64 0) hT
        · go_simp
          try go_wp2_with fail
          refine hK.out _ _ ?_ (fun hHeld => ?_)
          · (with_reducible refine ⟨Since.cell ?_ x0, Since.cell ?_ x1, Since.cell ?_ x2, Since.cell ?_ y0, Since.cell ?_ y1, Since.cell ?_ y2, ?_⟩) <;> (repeat (first | with_reducible assumption | with_reducible exact Since.refl _ | with_reducible refine Since.alloc ?_ _ | with_reducible refine Since.drew ?_ | with_reducible refine since_set ?_ ?_ _ _))
          clear hK K
          try simp only [Act.put, List.setIfInBounds_toArray, List.set_cons_zero, List.set_cons_succ]
          obtain ⟨v15, hv15⟩ : ∃ v, v = World.alloc y12 (.cells #[.int .i64 0, .int .i64 0, .int .i64 0] 89) := ⟨_, rfl⟩
          obtain ⟨u15, hu15⟩ : ∃ v, v = World.alloc (World.drew y12) (.cells #[.int .i64 0, .int .i64 0, .int .i64 0] 89) := ⟨_, rfl⟩
          have hT0 : TwoBox W1 [.int .i64 0, .int .i64 0, .int .i64 0] (World.heap v1).size (World.heap y12).size v15 := by rw [hv15]; exact TwoBox.madeQ hN0 _
          have hU0 : TwoBox W1 [.int .i64 0, .int .i64 0, .int .i64 0] (World.heap v1).size (World.heap y12).size u15 := by rw [hu15]; exact TwoBox.madeQ (NewBox.drew hN0) _
          have hs15 : Since W1 v15 := hT0.1.2.2
          have hq15 : Since W1 u15 := hU0.1.2.2
          first | (rw [← hv15]; generalize v15 = y15 at *; have hsy15 := hs15; clear hu15 hU0 hq15 hs15 hv15) | (rw [← hu15]; clear hT0; have hT0 := hU0; generalize u15 = y15 at *; have hsy15 := hq15; clear hv15 hU0 hq15 hu15)
          clear hN0
          refine wpAnyH_ready (rs := [3]) (by kernel_rfl) (by simp) ?_
          refine AllReadyH.cons (o := ⟨some 10, Op.call { callee := Callee.value (Operand.func 68), args := #[Operand.tmp 9], argTypes := #[46] }, 89, _, _, none⟩) rfl (fun K hK => ?_) AllReadyH.nil
          go_simp
          go_at_call 68
          refine (KN.out _ _ _ _).mono ?_
          rintro e v16 ⟨rfl, hr⟩
          have hs16 : Since W1 v16 := by (with_reducible refine Since.step ?_ hr); (repeat (first | with_reducible assumption | with_reducible exact Since.refl _ | with_reducible refine Since.alloc ?_ _ | with_reducible refine Since.drew ?_ | with_reducible refine since_set ?_ ?_ _ _))
          first | have hT0 := hT0.step hr | have hT0 := (TwoBox.drew hT0).step hr
          clear hr
          try go_wp2_with fail
          refine hK.out _ _ ?_ (fun hHeld => ?_)
          · (with_reducible refine ⟨Since.cell ?_ x0, Since.cell ?_ x1, Since.cell ?_ x2, Since.cell ?_ y0, Since.cell ?_ y1, Since.cell ?_ y2, ?_⟩) <;> (repeat (first | with_reducible assumption | with_reducible exact Since.refl _ | with_reducible refine Since.alloc ?_ _ | with_reducible refine Since.drew ?_ | with_reducible refine since_set ?_ ?_ _ _))
          clear hK K
          try simp only [Act.put, List.setIfInBounds_toArray, List.set_cons_zero, List.set_cons_succ]
          have hT := hT0.symm
          obtain ⟨b1_0, b1_1, b1_2, g1_0, g1_1, g1_2, -⟩ := hT.1.2.1.open3
          obtain ⟨b2_0, b2_1, b2_2, g2_0, g2_1, g2_2, -⟩ := hT.2.1.2.1.open3
          have hp1 := hT.1.1
          have hp2 := hT.2.1.1
          have hne := hT.2.2
          have hne2 := hT.2.2.symm
          refine wpAnyH_ready (rs := [6]) (by kernel_rfl) (by simp) ?_
          refine AllReadyH.cons (o := ⟨none, Op.store 89 (Operand.tmp 5) (Operand.tmp 8), 0, _, _, none⟩) rfl (fun K hK => ?_) AllReadyH.nil
          go_simp
          go_wp2_with fail
          refine hK.out _ _ ?_ (fun hHeld => ?_)
          · (with_reducible refine ⟨Since.cell ?_ x0, Since.cell ?_ x1, Since.cell ?_ x2, Since.cell ?_ y0, Since.cell ?_ y1, Since.cell ?_ y2, ?_⟩) <;> (repeat (first | with_reducible assumption | with_reducible exact Since.refl _ | with_reducible refine Since.alloc ?_ _ | with_reducible refine Since.drew ?_ | with_reducible refine since_set ?_ ?_ _ _))
          clear hK K
          try simp only [Act.put, List.setIfInBounds_toArray, List.set_cons_zero, List.set_cons_succ]
          refine wpAnyH_ready (rs := [7]) (by kernel_rfl) (by simp) ?_
          refine AllReadyH.cons (o := ⟨none, Op.store 89 (Operand.tmp 6) (Operand.tmp 10), 0, _, _, none⟩) rfl (fun K hK => ?_) AllReadyH.nil
          go_simp
          go_wp2_with fail
          refine hK.out _ _ ?_ (fun hHeld => ?_)
          · (with_reducible refine ⟨Since.cell ?_ x0, Since.cell ?_ x1, Since.cell ?_ x2, Since.cell ?_ y0, Since.cell ?_ y1, Since.cell ?_ y2, ?_⟩) <;> (repeat (first | with_reducible assumption | with_reducible exact Since.refl _ | with_reducible refine Since.alloc ?_ _ | with_reducible refine Since.drew ?_ | with_reducible refine since_set ?_ ?_ _ _))
          clear hK K
          try simp only [Act.put, List.setIfInBounds_toArray, List.set_cons_zero, List.set_cons_succ]
          refine wpAnyH_done (by kernel_rfl) ?_ _
          refine NoPanic.normal ?_
          go_wp2_with fail
          go_meet
          exact TwoBox.put (z := .int .i64 0) hT
    · go_simp
      try go_wp2_with fail
      refine hK.out _ _ ?_ (fun hHeld => ?_)
      · (with_reducible refine ⟨Since.cell ?_ x0, Since.cell ?_ x1, Since.cell ?_ x2, Since.cell ?_ y0, Since.cell ?_ y1, Since.cell ?_ y2, ?_⟩) <;> (repeat (first | with_reducible assumption | with_reducible exact Since.refl _ | with_reducible refine Since.alloc ?_ _ | with_reducible refine Since.drew ?_ | with_reducible refine since_set ?_ ?_ _ _))
      clear hK K
      try simp only [Act.put, List.setIfInBounds_toArray, List.set_cons_zero, List.set_cons_succ]
      obtain ⟨v17, hv17⟩ : ∃ v, v = World.alloc W1 (.cells #[.int .i64 0, .int .i64 0, .int .i64 0] 89) := ⟨_, rfl⟩
      obtain ⟨u17, hu17⟩ : ∃ v, v = World.alloc (World.drew W1) (.cells #[.int .i64 0, .int .i64 0, .int .i64 0] 89) := ⟨_, rfl⟩
      have hN0 : NewBox W1 [.int .i64 0, .int .i64 0, .int .i64 0] (World.heap W1).size v17 := by rw [hv17]; exact NewBox.made (Since.refl W1) _ _
      have hM0 : NewBox W1 [.int .i64 0, .int .i64 0, .int .i64 0] (World.heap W1).size u17 := by rw [hu17]; exact NewBox.made (Since.drew (Since.refl W1)) _ _
      have hs17 : Since W1 v17 := hN0.2.2
      have hq17 : Since W1 u17 := hM0.2.2
      first | (rw [← hv17]; generalize v17 = y17 at *; have hsy17 := hs17; clear hu17 hM0 hq17 hs17 hv17) | (rw [← hu17]; clear hN0; have hN0 := hM0; generalize u17 = y17 at *; have hsy17 := hq17; clear hv17 hM0 hq17 hu17)
      refine wpAnyH_ready (rs := [1, 5]) (by kernel_rfl) (by simp) ?_
      refine AllReadyH.cons (o := ⟨some 8, Op.call { callee := Callee.value (Operand.func 68), args := #[Operand.tmp 7], argTypes := #[46] }, 89, _, _, none⟩) rfl (fun K hK => ?_) (AllReadyH.cons (o := ⟨some 6, Op.alloc 89, 0, _, _, none⟩) rfl (fun K hK => ?_) AllReadyH.nil)
      · go_simp
        go_at_call 68
        refine (KN.out _ _ _ _).mono ?_
        rintro e v18 ⟨rfl, hr⟩
        have hs18 : Since W1 v18 := by (with_reducible refine Since.step ?_ hr); (repeat (first | with_reducible assumption | with_reducible exact Since.refl _ | with_reducible refine Since.alloc ?_ _ | with_reducible refine Since.drew ?_ | with_reducible refine since_set ?_ ?_ _ _))
        first | have hN0 := hN0.step hr | have hN0 := (NewBox.drew hN0).step hr
        clear hr
        try go_wp2_with fail
        refine hK.out _ _ ?_ (fun hHeld => ?_)
        · (with_reducible refine ⟨Since.cell ?_ x0, Since.cell ?_ x1, Since.cell ?_ x2, Since.cell ?_ y0, Since.cell ?_ y1, Since.cell ?_ y2, ?_⟩) <;> (repeat (first | with_reducible assumption | with_reducible exact Since.refl _ | with_reducible refine Since.alloc ?_ _ | with_reducible refine Since.drew ?_ | with_reducible refine since_set ?_ ?_ _ _))
        clear hK K
        try simp only [Act.put, List.setIfInBounds_toArray, List.set_cons_zero, List.set_cons_succ]
        refine wpAnyH_ready (rs := [3, 5]) (by kernel_rfl) (by simp) ?_
        refine AllReadyH.cons (o := ⟨some 10, Op.call { callee := Callee.value (Operand.func 68), args := #[Operand.tmp 9], argTypes := #[46] }, 89, _, _, none⟩) rfl (fun K hK => ?_) (AllReadyH.cons (o := ⟨some 6, Op.alloc 89, 0, _, _, none⟩) rfl (fun K hK => ?_) AllReadyH.nil)
        · go_simp
          go_at_call 68
          refine (KN.out _ _ _ _).mono ?_
          rintro e v19 ⟨rfl, hr⟩
          have hs19 : Since W1 v19 := by (with_reducible refine Since.step ?_ hr); (repeat (first | with_reducible assumption | with_reducible exact Since.refl _ | with_reducible refine Since.alloc ?_ _ | with_reducible refine Since.drew ?_ | with_reducible refine since_set ?_ ?_ _ _))
          first | have hN0 := hN0.step hr | have hN0 := (NewBox.drew hN0).step hr
          clear hr
          try go_wp2_with fail
          refine hK.out _ _ ?_ (fun hHeld => ?_)
          · (with_reducible refine ⟨Since.cell ?_ x0, Since.cell ?_ x1, Since.cell ?_ x2, Since.cell ?_ y0, Since.cell ?_ y1, Since.cell ?_ y2, ?_⟩) <;> (repeat (first | with_reducible assumption | with_reducible exact Since.refl _ | with_reducible refine Since.alloc ?_ _ | with_reducible refine Since.drew ?_ | with_reducible refine since_set ?_ ?_ _ _))
          clear hK K
          try simp only [Act.put, List.setIfInBounds_toArray, List.set_cons_zero, List.set_cons_succ]
          refine wpAnyH_ready (rs := [5]) (by kernel_rfl) (by simp) ?_
          refine AllReadyH.cons (o := ⟨some 6, Op.alloc 89, 0, _, _, none⟩) rfl (fun K hK => ?_) AllReadyH.nil
          go_simp
          try go_wp2_with fail
          refine hK.out _ _ ?_ (fun hHeld => ?_)
          · (with_reducible refine ⟨Since.cell ?_ x0, Since.cell ?_ x1, Since.cell ?_ x2, Since.cell ?_ y0, Since.cell ?_ y1, Since.cell ?_ y2, ?_⟩) <;> (repeat (first | with_reducible assumption | with_reducible exact Since.refl _ | with_reducible refine Since.alloc ?_ _ | with_reducible refine Since.drew ?_ | with_reducible refine since_set ?_ ?_ _ _))
          clear hK K
          try simp only [Act.put, List.setIfInBounds_toArray, List.set_cons_zero, List.set_cons_succ]
          obtain ⟨v20, hv20⟩ : ∃ v, v = World.alloc v19 (.cells #[.int .i64 0, .int .i64 0, .int .i64 0] 89) := ⟨_, rfl⟩
          obtain ⟨u20, hu20⟩ : ∃ v, v = World.alloc (World.drew v19) (.cells #[.int .i64 0, .int .i64 0, .int .i64 0] 89) := ⟨_, rfl⟩
          have hT0 : TwoBox W1 [.int .i64 0, .int .i64 0, .int .i64 0] (World.heap W1).size (World.heap v19).size v20 := by rw [hv20]; exact TwoBox.madeQ hN0 _
          have hU0 : TwoBox W1 [.int .i64 0, .int .i64 0, .int .i64 0] (World.heap W1).size (World.heap v19).size u20 := by rw [hu20]; exact TwoBox.madeQ (NewBox.drew hN0) _
          have hs20 : Since W1 v20 := hT0.1.2.2
          have hq20 : Since W1 u20 := hU0.1.2.2
          first | (rw [← hv20]; generalize v20 = y20 at *; have hsy20 := hs20; clear hu20 hU0 hq20 hs20 hv20) | (rw [← hu20]; clear hT0; have hT0 := hU0; generalize u20 = y20 at *; have hsy20 := hq20; clear hv20 hU0 hq20 hu20)
          clear hN0
          have hT := hT0
          obtain ⟨b1_0, b1_1, b1_2, g1_0, g1_1, g1_2, -⟩ := hT.1.2.1.open3
          obtain ⟨b2_0, b2_1, b2_2, g2_0, g2_1, g2_2, -⟩ := hT.2.1.2.1.open3
          have hp1 := hT.1.1
          have hp2 := hT.2.1.1
          have hne := hT.2.2
          have hne2 := hT.2.2.symm
          refine wpAnyH_ready (rs := [6]) (by kernel_rfl) (by simp) ?_
          refine AllReadyH.cons (o := ⟨none, Op.store 89 (Operand.tmp 5) (Operand.tmp 8), 0, _, _, none⟩) rfl (fun K hK => ?_) AllReadyH.nil
          go_simp
          go_wp2_with fail
          refine hK.out _ _ ?_ (fun hHeld => ?_)
          · (with_reducible refine ⟨Since.cell ?_ x0, Since.cell ?_ x1, Since.cell ?_ x2, Since.cell ?_ y0, Since.cell ?_ y1, Since.cell ?_ y2, ?_⟩) <;> (repeat (first | with_reducible assumption | with_reducible exact Since.refl _ | with_reducible refine Since.alloc ?_ _ | with_reducible refine Since.drew ?_ | with_reducible refine since_set ?_ ?_ _ _))
          clear hK K
          try simp only [Act.put, List.setIfInBounds_toArray, List.set_cons_zero, List.set_cons_succ]
          refine wpAnyH_ready (rs := [7]) (by kernel_rfl) (by simp) ?_
          refine AllReadyH.cons (o := ⟨none, Op.store 89 (Operand.tmp 6) (Operand.tmp 10), 0, _, _, none⟩) rfl (fun K hK => ?_) AllReadyH.nil
          go_simp
          go_wp2_with fail
          refine hK.out _ _ ?_ (fun hHeld => ?_)
          · (with_reducible refine ⟨Since.cell ?_ x0, Since.cell ?_ x1, Since.cell ?_ x2, Since.cell ?_ y0, Since.cell ?_ y1, Since.cell ?_ y2, ?_⟩) <;> (repeat (first | with_reducible assumption | with_reducible exact Since.refl _ | with_reducible refine Since.alloc ?_ _ | with_reducible refine Since.drew ?_ | with_reducible refine since_set ?_ ?_ _ _))
          clear hK K
          try simp only [Act.put, List.setIfInBounds_toArray, List.set_cons_zero, List.set_cons_succ]
          refine wpAnyH_done (by kernel_rfl) ?_ _
          refine NoPanic.normal ?_
          go_wp2_with fail
          go_meet
          exact TwoBox.put (z := .int .i64 0) hT
        · go_simp
          try go_wp2_with fail
          refine hK.out _ _ ?_ (fun hHeld => ?_)
          · (with_reducible refine ⟨Since.cell ?_ x0, Since.cell ?_ x1, Since.cell ?_ x2, Since.cell ?_ y0, Since.cell ?_ y1, Since.cell ?_ y2, ?_⟩) <;> (repeat (first | with_reducible assumption | with_reducible exact Since.refl _ | with_reducible refine Since.alloc ?_ _ | with_reducible refine Since.drew ?_ | with_reducible refine since_set ?_ ?_ _ _))
          clear hK K
          try simp only [Act.put, List.setIfInBounds_toArray, List.set_cons_zero, List.set_cons_succ]
          obtain ⟨v21, hv21⟩ : ∃ v, v = World.alloc v18 (.cells #[.int .i64 0, .int .i64 0, .int .i64 0] 89) := ⟨_, rfl⟩
          obtain ⟨u21, hu21⟩ : ∃ v, v = World.alloc (World.drew v18) (.cells #[.int .i64 0, .int .i64 0, .int .i64 0] 89) := ⟨_, rfl⟩
          have hT0 : TwoBox W1 [.int .i64 0, .int .i64 0, .int .i64 0] (World.heap W1).size (World.heap v18).size v21 := by rw [hv21]; exact TwoBox.madeQ hN0 _
          have hU0 : TwoBox W1 [.int .i64 0, .int .i64 0, .int .i64 0] (World.heap W1).size (World.heap v18).size u21 := by rw [hu21]; exact TwoBox.madeQ (NewBox.drew hN0) _
          have hs21 : Since W1 v21 := hT0.1.2.2
          have hq21 : Since W1 u21 := hU0.1.2.2
          first | (rw [← hv21]; generalize v21 = y21 at *; have hsy21 := hs21; clear hu21 hU0 hq21 hs21 hv21) | (rw [← hu21]; clear hT0; have hT0 := hU0; generalize u21 = y21 at *; have hsy21 := hq21; clear hv21 hU0 hq21 hu21)
          clear hN0
          refine wpAnyH_ready (rs := [3]) (by kernel_rfl) (by simp) ?_
          refine AllReadyH.cons (o := ⟨some 10, Op.call { callee := Callee.value (Operand.func 68), args := #[Operand.tmp 9], argTypes := #[46] }, 89, _, _, none⟩) rfl (fun K hK => ?_) AllReadyH.nil
          go_simp
          go_at_call 68
          refine (KN.out _ _ _ _).mono ?_
          rintro e v22 ⟨rfl, hr⟩
          have hs22 : Since W1 v22 := by (with_reducible refine Since.step ?_ hr); (repeat (first | with_reducible assumption | with_reducible exact Since.refl _ | with_reducible refine Since.alloc ?_ _ | with_reducible refine Since.drew ?_ | with_reducible refine since_set ?_ ?_ _ _))
          first | have hT0 := hT0.step hr | have hT0 := (TwoBox.drew hT0).step hr
          clear hr
          try go_wp2_with fail
          refine hK.out _ _ ?_ (fun hHeld => ?_)
          · (with_reducible refine ⟨Since.cell ?_ x0, Since.cell ?_ x1, Since.cell ?_ x2, Since.cell ?_ y0, Since.cell ?_ y1, Since.cell ?_ y2, ?_⟩) <;> (repeat (first | with_reducible assumption | with_reducible exact Since.refl _ | with_reducible refine Since.alloc ?_ _ | with_reducible refine Since.drew ?_ | with_reducible refine since_set ?_ ?_ _ _))
          clear hK K
          try simp only [Act.put, List.setIfInBounds_toArray, List.set_cons_zero, List.set_cons_succ]
          have hT := hT0
          obtain ⟨b1_0, b1_1, b1_2, g1_0, g1_1, g1_2, -⟩ := hT.1.2.1.open3
          obtain ⟨b2_0, b2_1, b2_2, g2_0, g2_1, g2_2, -⟩ := hT.2.1.2.1.open3
          have hp1 := hT.1.1
          have hp2 := hT.2.1.1
          have hne := hT.2.2
          have hne2 := hT.2.2.symm
          refine wpAnyH_ready (rs := [6]) (by kernel_rfl) (by simp) ?_
          refine AllReadyH.cons (o := ⟨none, Op.store 89 (Operand.tmp 5) (Operand.tmp 8), 0, _, _, none⟩) rfl (fun K hK => ?_) AllReadyH.nil
          go_simp
          go_wp2_with fail
          refine hK.out _ _ ?_ (fun hHeld => ?_)
          · (with_reducible refine ⟨Since.cell ?_ x0, Since.cell ?_ x1, Since.cell ?_ x2, Since.cell ?_ y0, Since.cell ?_ y1, Since.cell ?_ y2, ?_⟩) <;> (repeat (first | with_reducible assumption | with_reducible exact Since.refl _ | with_reducible refine Since.alloc ?_ _ | with_reducible refine Since.drew ?_ | with_reducible refine since_set ?_ ?_ _ _))
          clear hK K
          try simp only [Act.put, List.setIfInBounds_toArray, List.set_cons_zero, List.set_cons_succ]
          refine wpAnyH_ready (rs := [7]) (by kernel_rfl) (by simp) ?_
          refine AllReadyH.cons (o := ⟨none, Op.store 89 (Operand.tmp 6) (Operand.tmp 10), 0, _, _, none⟩) rfl (fun K hK => ?_) AllReadyH.nil
          go_simp
          go_wp2_with fail
          refine hK.out _ _ ?_ (fun hHeld => ?_)
          · (with_reducible refine ⟨Since.cell ?_ x0, Since.cell ?_ x1, Since.cell ?_ x2, Since.cell ?_ y0, Since.cell ?_ y1, Since.cell ?_ y2, ?_⟩) <;> (repeat (first | with_reducible assumption | with_reducible exact Since.refl _ | with_reducible refine Since.alloc ?_ _ | with_reducible refine Since.drew ?_ | with_reducible refine since_set ?_ ?_ _ _))
          clear hK K
          try simp only [Act.put, List.setIfInBounds_toArray, List.set_cons_zero, List.set_cons_succ]
          refine wpAnyH_done (by kernel_rfl) ?_ _
          refine NoPanic.normal ?_
          go_wp2_with fail
          go_meet
          exact TwoBox.put (z := .int .i64 0) hT
      · go_simp
        try go_wp2_with fail
        refine hK.out _ _ ?_ (fun hHeld => ?_)
        · (with_reducible refine ⟨Since.cell ?_ x0, Since.cell ?_ x1, Since.cell ?_ x2, Since.cell ?_ y0, Since.cell ?_ y1, Since.cell ?_ y2, ?_⟩) <;> (repeat (first | with_reducible assumption | with_reducible exact Since.refl _ | with_reducible refine Since.alloc ?_ _ | with_reducible refine Since.drew ?_ | with_reducible refine since_set ?_ ?_ _ _))
        clear hK K
        try simp only [Act.put, List.setIfInBounds_toArray, List.set_cons_zero, List.set_cons_succ]
        obtain ⟨v23, hv23⟩ : ∃ v, v = World.alloc y17 (.cells #[.int .i64 0, .int .i64 0, .int .i64 0] 89) := ⟨_, rfl⟩
        obtain ⟨u23, hu23⟩ : ∃ v, v = World.alloc (World.drew y17) (.cells #[.int .i64 0, .int .i64 0, .int .i64 0] 89) := ⟨_, rfl⟩
        have hT0 : TwoBox W1 [.int .i64 0, .int .i64 0, .int .i64 0] (World.heap W1).size (World.heap y17).size v23 := by rw [hv23]; exact TwoBox.madeQ hN0 _
        have hU0 : TwoBox W1 [.int .i64 0, .int .i64 0, .int .i64 0] (World.heap W1).size (World.heap y17).size u23 := by rw [hu23]; exact TwoBox.madeQ (NewBox.drew hN0) _
        have hs23 : Since W1 v23 := hT0.1.2.2
        have hq23 : Since W1 u23 := hU0.1.2.2
        first | (rw [← hv23]; generalize v23 = y23 at *; have hsy23 := hs23; clear hu23 hU0 hq23 hs23 hv23) | (rw [← hu23]; clear hT0; have hT0 := hU0; generalize u23 = y23 at *; have hsy23 := hq23; clear hv23 hU0 hq23 hu23)
        clear hN0
        refine wpAnyH_ready (rs := [1]) (by kernel_rfl) (by simp) ?_
        refine AllReadyH.cons (o := ⟨some 8, Op.call { callee := Callee.value (Operand.func 68), args := #[Operand.tmp 7], argTypes := #[46] }, 89, _, _, none⟩) rfl (fun K hK => ?_) AllReadyH.nil
        go_simp
        go_at_call 68
        refine (KN.out _ _ _ _).mono ?_
        rintro e v24 ⟨rfl, hr⟩
        have hs24 : Since W1 v24 := by (with_reducible refine Since.step ?_ hr); (repeat (first | with_reducible assumption | with_reducible exact Since.refl _ | with_reducible refine Since.alloc ?_ _ | with_reducible refine Since.drew ?_ | with_reducible refine since_set ?_ ?_ _ _))
        first | have hT0 := hT0.step hr | have hT0 := (TwoBox.drew hT0).step hr
        clear hr
        try go_wp2_with fail
        refine hK.out _ _ ?_ (fun hHeld => ?_)
        · (with_reducible refine ⟨Since.cell ?_ x0, Since.cell ?_ x1, Since.cell ?_ x2, Since.cell ?_ y0, Since.cell ?_ y1, Since.cell ?_ y2, ?_⟩) <;> (repeat (first | with_reducible assumption | with_reducible exact Since.refl _ | with_reducible refine Since.alloc ?_ _ | with_reducible refine Since.drew ?_ | with_reducible refine since_set ?_ ?_ _ _))
        clear hK K
        try simp only [Act.put, List.setIfInBounds_toArray, List.set_cons_zero, List.set_cons_succ]
        refine wpAnyH_ready (rs := [3]) (by kernel_rfl) (by simp) ?_
        refine AllReadyH.cons (o := ⟨some 10, Op.call { callee := Callee.value (Operand.func 68), args := #[Operand.tmp 9], argTypes := #[46] }, 89, _, _, none⟩) rfl (fun K hK => ?_) AllReadyH.nil
        go_simp
        go_at_call 68
        refine (KN.out _ _ _ _).mono ?_
        rintro e v25 ⟨rfl, hr⟩
        have hs25 : Since W1 v25 := by (with_reducible refine Since.step ?_ hr); (repeat (first | with_reducible assumption | with_reducible exact Since.refl _ | with_reducible refine Since.alloc ?_ _ | with_reducible refine Since.drew ?_ | with_reducible refine since_set ?_ ?_ _ _))
        first | have hT0 := hT0.step hr | have hT0 := (TwoBox.drew hT0).step hr
        clear hr
        try go_wp2_with fail
        refine hK.out _ _ ?_ (fun hHeld => ?_)
        · (with_reducible refine ⟨Since.cell ?_ x0, Since.cell ?_ x1, Since.cell ?_ x2, Since.cell ?_ y0, Since.cell ?_ y1, Since.cell ?_ y2, ?_⟩) <;> (repeat (first | with_reducible assumption | with_reducible exact Since.refl _ | with_reducible refine Since.alloc ?_ _ | with_reducible refine Since.drew ?_ | with_reducible refine since_set ?_ ?_ _ _))
        clear hK K
        try simp only [Act.put, List.setIfInBounds_toArray, List.set_cons_zero, List.set_cons_succ]
        have hT := hT0
        obtain ⟨b1_0, b1_1, b1_2, g1_0, g1_1, g1_2, -⟩ := hT.1.2.1.open3
        obtain ⟨b2_0, b2_1, b2_2, g2_0, g2_1, g2_2, -⟩ := hT.2.1.2.1.open3
        have hp1 := hT.1.1
        have hp2 := hT.2.1.1
        have hne := hT.2.2
        have hne2 := hT.2.2.symm
        refine wpAnyH_ready (rs := [6]) (by kernel_rfl) (by simp) ?_
        refine AllReadyH.cons (o := ⟨none, Op.store 89 (Operand.tmp 5) (Operand.tmp 8), 0, _, _, none⟩) rfl (fun K hK => ?_) AllReadyH.nil
        go_simp
        go_wp2_with fail
        refine hK.out _ _ ?_ (fun hHeld => ?_)
        · (with_reducible refine ⟨Since.cell ?_ x0, Since.cell ?_ x1, Since.cell ?_ x2, Since.cell ?_ y0, Since.cell ?_ y1, Since.cell ?_ y2, ?_⟩) <;> (repeat (first | with_reducible assumption | with_reducible exact Since.refl _ | with_reducible refine Since.alloc ?_ _ | with_reducible refine Since.drew ?_ | with_reducible refine since_set ?_ ?_ _ _))
        clear hK K
        try simp only [Act.put, List.setIfInBounds_toArray, List.set_cons_zero, List.set_cons_succ]
        refine wpAnyH_ready (rs := [7]) (by kernel_rfl) (by simp) ?_
        refine AllReadyH.cons (o := ⟨none, Op.store 89 (Operand.tmp 6) (Operand.tmp 10), 0, _, _, none⟩) rfl (fun K hK => ?_) AllReadyH.nil
        go_simp
        go_wp2_with fail
        refine hK.out _ _ ?_ (fun hHeld => ?_)
        · (with_reducible refine ⟨Since.cell ?_ x0, Since.cell ?_ x1, Since.cell ?_ x2, Since.cell ?_ y0, Since.cell ?_ y1, Since.cell ?_ y2, ?_⟩) <;> (repeat (first | with_reducible assumption | with_reducible exact Since.refl _ | with_reducible refine Since.alloc ?_ _ | with_reducible refine Since.drew ?_ | with_reducible refine since_set ?_ ?_ _ _))
        clear hK K
        try simp only [Act.put, List.setIfInBounds_toArray, List.set_cons_zero, List.set_cons_succ]
        refine wpAnyH_done (by kernel_rfl) ?_ _
        refine NoPanic.normal ?_
        go_wp2_with fail
        go_meet
        exact TwoBox.put (z := .int .i64 0) hT
    · go_simp
      try go_wp2_with fail
      refine hK.out _ _ ?_ (fun hHeld => ?_)
      · (with_reducible refine ⟨Since.cell ?_ x0, Since.cell ?_ x1, Since.cell ?_ x2, Since.cell ?_ y0, Since.cell ?_ y1, Since.cell ?_ y2, ?_⟩) <;> (repeat (first | with_reducible assumption | with_reducible exact Since.refl _ | with_reducible refine Since.alloc ?_ _ | with_reducible refine Since.drew ?_ | with_reducible refine since_set ?_ ?_ _ _))
      clear hK K
      try simp only [Act.put, List.setIfInBounds_toArray, List.set_cons_zero, List.set_cons_succ]
      obtain ⟨v26, hv26⟩ : ∃ v, v = World.alloc W1 (.cells #[.int .i64 0, .int .i64 0, .int .i64 0] 89) := ⟨_, rfl⟩
      obtain ⟨u26, hu26⟩ : ∃ v, v = World.alloc (World.drew W1) (.cells #[.int .i64 0, .int .i64 0, .int .i64 0] 89) := ⟨_, rfl⟩
      have hN0 : NewBox W1 [.int .i64 0, .int .i64 0, .int .i64 0] (World.heap W1).size v26 := by rw [hv26]; exact NewBox.made (Since.refl W1) _ _
      have hM0 : NewBox W1 [.int .i64 0, .int .i64 0, .int .i64 0] (World.heap W1).size u26 := by rw [hu26]; exact NewBox.made (Since.drew (Since.refl W1)) _ _
      have hs26 : Since W1 v26 := hN0.2.2
      have hq26 : Since W1 u26 := hM0.2.2
      first | (rw [← hv26]; generalize v26 = y26 at *; have hsy26 := hs26; clear hu26 hM0 hq26 hs26 hv26) | (rw [← hu26]; clear hN0; have hN0 := hM0; generalize u26 = y26 at *; have hsy26 := hq26; clear hv26 hM0 hq26 hu26)
      refine wpAnyH_ready (rs := [1, 4]) (by kernel_rfl) (by simp) ?_
      refine AllReadyH.cons (o := ⟨some 8, Op.call { callee := Callee.value (Operand.func 68), args := #[Operand.tmp 7], argTypes := #[46] }, 89, _, _, none⟩) rfl (fun K hK => ?_) (AllReadyH.cons (o := ⟨some 5, Op.alloc 89, 0, _, _, none⟩) rfl (fun K hK => ?_) AllReadyH.nil)
      · go_simp
        go_at_call 68
        refine (KN.out _ _ _ _).mono ?_
        rintro e v27 ⟨rfl, hr⟩
        have hs27 : Since W1 v27 := by (with_reducible refine Since.step ?_ hr); (repeat (first | with_reducible assumption | with_reducible exact Since.refl _ | with_reducible refine Since.alloc ?_ _ | with_reducible refine Since.drew ?_ | with_reducible refine since_set ?_ ?_ _ _))
        first | have hN0 := hN0.step hr | have hN0 := (NewBox.drew hN0).step hr
        clear hr
        try go_wp2_with fail
        refine hK.out _ _ ?_ (fun hHeld => ?_)
        · (with_reducible refine ⟨Since.cell ?_ x0, Since.cell ?_ x1, Since.cell ?_ x2, Since.cell ?_ y0, Since.cell ?_ y1, Since.cell ?_ y2, ?_⟩) <;> (repeat (first | with_reducible assumption | with_reducible exact Since.refl _ | with_reducible refine Since.alloc ?_ _ | with_reducible refine Since.drew ?_ | with_reducible refine since_set ?_ ?_ _ _))
        clear hK K
        try simp only [Act.put, List.setIfInBounds_toArray, List.set_cons_zero, List.set_cons_succ]
        refine wpAnyH_ready (rs := [3, 4]) (by kernel_rfl) (by simp) ?_
        refine AllReadyH.cons (o := ⟨some 10, Op.call { callee := Callee.value (Operand.func 68), args := #[Operand.tmp 9], argTypes := #[46] }, 89, _, _, none⟩) rfl (fun K hK => ?_) (AllReadyH.cons (o := ⟨some 5, Op.alloc 89, 0, _, _, none⟩) rfl (fun K hK => ?_) AllReadyH.nil)
        · go_simp
          go_at_call 68
          refine (KN.out _ _ _ _).mono ?_
          rintro e v28 ⟨rfl, hr⟩
          have hs28 : Since W1 v28 := by (with_reducible refine Since.step ?_ hr); (repeat (first | with_reducible assumption | with_reducible exact Since.refl _ | with_reducible refine Since.alloc ?_ _ | with_reducible refine Since.drew ?_ | with_reducible refine since_set ?_ ?_ _ _))
          first | have hN0 := hN0.step hr | have hN0 := (NewBox.drew hN0).step hr
          clear hr
          try go_wp2_with fail
          refine hK.out _ _ ?_ (fun hHeld => ?_)
          · (with_reducible refine ⟨Since.cell ?_ x0, Since.cell ?_ x1, Since.cell ?_ x2, Since.cell ?_ y0, Since.cell ?_ y1, Since.cell ?_ y2, ?_⟩) <;> (repeat (first | with_reducible assumption | with_reducible exact Since.refl _ | with_reducible refine Since.alloc ?_ _ | with_reducible refine Since.drew ?_ | with_reducible refine since_set ?_ ?_ _ _))
          clear hK K
          try simp only [Act.put, List.setIfInBounds_toArray, List.set_cons_zero, List.set_cons_succ]
          refine wpAnyH_ready (rs := [4]) (by kernel_rfl) (by simp) ?_
          refine AllReadyH.cons (o := ⟨some 5, Op.alloc 89, 0, _, _, none⟩) rfl (fun K hK => ?_) AllReadyH.nil
          go_simp
          try go_wp2_with fail
          refine hK.out _ _ ?_ (fun hHeld => ?_)
          · (with_reducible refine ⟨Since.cell ?_ x0, Since.cell ?_ x1, Since.cell ?_ x2, Since.cell ?_ y0, Since.cell ?_ y1, Since.cell ?_ y2, ?_⟩) <;> (repeat (first | with_reducible assumption | with_reducible exact Since.refl _ | with_reducible refine Since.alloc ?_ _ | with_reducible refine Since.drew ?_ | with_reducible refine since_set ?_ ?_ _ _))
          clear hK K
          try simp only [Act.put, List.setIfInBounds_toArray, List.set_cons_zero, List.set_cons_succ]
          obtain ⟨v29, hv29⟩ : ∃ v, v = World.alloc v28 (.cells #[.int .i64 0, .int .i64 0, .int .i64 0] 89) := ⟨_, rfl⟩
          obtain ⟨u29, hu29⟩ : ∃ v, v = World.alloc (World.drew v28) (.cells #[.int .i64 0, .int .i64 0, .int .i64 0] 89) := ⟨_, rfl⟩
          have hT0 : TwoBox W1 [.int .i64 0, .int .i64 0, .int .i64 0] (World.heap W1).size (World.heap v28).size v29 := by rw [hv29]; exact TwoBox.madeQ hN0 _
          have hU0 : TwoBox W1 [.int .i64 0, .int .i64 0, .int .i64 0] (World.heap W1).size (World.heap v28).size u29 := by rw [hu29]; exact TwoBox.madeQ (NewBox.drew hN0) _
          have hs29 : Since W1 v29 := hT0.1.2.2
          have hq29 : Since W1 u29 := hU0.1.2.2
          first | (rw [← hv29]; generalize v29 = y29 at *; have hsy29 := hs29; clear hu29 hU0 hq29 hs29 hv29) | (rw [← hu29]; clear hT0; have hT0 := hU0; generalize u29 = y29 at *; have hsy29 := hq29; clear hv29 hU0 hq29 hu29)
          clear hN0
          have hT := hT0.symm
          obtain ⟨b1_0, b1_1, b1_2, g1_0, g1_1, g1_2, -⟩ := hT.1.2.1.open3
          obtain ⟨b2_0, b2_1, b2_2, g2_0, g2_1, g2_2, -⟩ := hT.2.1.2.1.open3
          have hp1 := hT.1.1
          have hp2 := hT.2.1.1
          have hne := hT.2.2
          have hne2 := hT.2.2.symm
          refine wpAnyH_ready (rs := [6]) (by kernel_rfl) (by simp) ?_
          refine AllReadyH.cons (o := ⟨none, Op.store 89 (Operand.tmp 5) (Operand.tmp 8), 0, _, _, none⟩) rfl (fun K hK => ?_) AllReadyH.nil
          go_simp
          go_wp2_with fail
          refine hK.out _ _ ?_ (fun hHeld => ?_)
          · (with_reducible refine ⟨Since.cell ?_ x0, Since.cell ?_ x1, Since.cell ?_ x2, Since.cell ?_ y0, Since.cell ?_ y1, Since.cell ?_ y2, ?_⟩) <;> (repeat (first | with_reducible assumption | with_reducible exact Since.refl _ | with_reducible refine Since.alloc ?_ _ | with_reducible refine Since.drew ?_ | with_reducible refine since_set ?_ ?_ _ _))
          clear hK K
          try simp only [Act.put, List.setIfInBounds_toArray, List.set_cons_zero, List.set_cons_succ]
          refine wpAnyH_ready (rs := [7]) (by kernel_rfl) (by simp) ?_
          refine AllReadyH.cons (o := ⟨none, Op.store 89 (Operand.tmp 6) (Operand.tmp 10), 0, _, _, none⟩) rfl (fun K hK => ?_) AllReadyH.nil
          go_simp
          go_wp2_with fail
          refine hK.out _ _ ?_ (fun hHeld => ?_)
          · (with_reducible refine ⟨Since.cell ?_ x0, Since.cell ?_ x1, Since.cell ?_ x2, Since.cell ?_ y0, Since.cell ?_ y1, Since.cell ?_ y2, ?_⟩) <;> (repeat (first | with_reducible assumption | with_reducible exact Since.refl _ | with_reducible refine Since.alloc ?_ _ | with_reducible refine Since.drew ?_ | with_reducible refine since_set ?_ ?_ _ _))
          clear hK K
          try simp only [Act.put, List.setIfInBounds_toArray, List.set_cons_zero, List.set_cons_succ]
          refine wpAnyH_done (by kernel_rfl) ?_ _
          refine NoPanic.normal ?_
          go_wp2_with fail
          go_meet
          exact TwoBox.put (z := .int .i64 0) hT
        · go_simp
          try go_wp2_with fail
          refine hK.out _ _ ?_ (fun hHeld => ?_)
          · (with_reducible refine ⟨Since.cell ?_ x0, Since.cell ?_ x1, Since.cell ?_ x2, Since.cell ?_ y0, Since.cell ?_ y1, Since.cell ?_ y2, ?_⟩) <;> (repeat (first | with_reducible assumption | with_reducible exact Since.refl _ | with_reducible refine Since.alloc ?_ _ | with_reducible refine Since.drew ?_ | with_reducible refine since_set ?_ ?_ _ _))
          clear hK K
          try simp only [Act.put, List.setIfInBounds_toArray, List.set_cons_zero, List.set_cons_succ]
          obtain ⟨v30, hv30⟩ : ∃ v, v = World.alloc v27 (.cells #[.int .i64 0, .int .i64 0, .int .i64 0] 89) := ⟨_, rfl⟩
          obtain ⟨u30, hu30⟩ : ∃ v, v = World.alloc (World.drew v27) (.cells #[.int .i64 0, .int .i64 0, .int .i64 0] 89) := ⟨_, rfl⟩
          have hT0 : TwoBox W1 [.int .i64 0, .int .i64 0, .int .i64 0] (World.heap W1).size (World.heap v27).size v30 := by rw [hv30]; exact TwoBox.madeQ hN0 _
          have hU0 : TwoBox W1 [.int .i64 0, .int .i64 0, .int .i64 0] (World.heap W1).size (World.heap v27).size u30 := by rw [hu30]; exact TwoBox.madeQ (NewBox.drew hN0) _
          have hs30 : Since W1 v30 := hT0.1.2.2
          have hq30 : Since W1 u30 := hU0.1.2.2
          first | (rw [← hv30]; generalize v30 = y30 at *; have hsy30 := hs30; clear hu30 hU0 hq30 hs30 hv30) | (rw [← hu30]; clear hT0; have hT0 := hU0; generalize u30 = y30 at *; have hsy30 := hq30; clear hv30 hU0 hq30 hu30)
          clear hN0
          refine wpAnyH_ready (rs := [3]) (by kernel_rfl) (by simp) ?_
          refine AllReadyH.cons (o := ⟨some 10, Op.call { callee := Callee.value (Operand.func 68), args := #[Operand.tmp 9], argTypes := #[46] }, 89, _, _, none⟩) rfl (fun K hK => ?_) AllReadyH.nil
          go_simp
          go_at_call 68
          refine (KN.out _ _ _ _).mono ?_
          rintro e v31 ⟨rfl, hr⟩
          have hs31 : Since W1 v31 := by (with_reducible refine Since.step ?_ hr); (repeat (first | with_reducible assumption | with_reducible exact Since.refl _ | with_reducible refine Since.alloc ?_ _ | with_reducible refine Since.drew ?_ | with_reducible refine since_set ?_ ?_ _ _))
          first | have hT0 := hT0.step hr | have hT0 := (TwoBox.drew hT0).step hr
          clear hr
          try go_wp2_with fail
          refine hK.out _ _ ?_ (fun hHeld => ?_)
          · (with_reducible refine ⟨Since.cell ?_ x0, Since.cell ?_ x1, Since.cell ?_ x2, Since.cell ?_ y0, Since.cell ?_ y1, Since.cell ?_ y2, ?_⟩) <;> (repeat (first | with_reducible assumption | with_reducible exact Since.refl _ | with_reducible refine Since.alloc ?_ _ | with_reducible refine Since.drew ?_ | with_reducible refine since_set ?_ ?_ _ _))
          clear hK K
          try simp only [Act.put, List.setIfInBounds_toArray, List.set_cons_zero, List.set_cons_succ]
          have hT := hT0.symm
          obtain ⟨b1_0, b1_1, b1_2, g1_0, g1_1, g1_2, -⟩ := hT.1.2.1.open3
          obtain ⟨b2_0, b2_1, b2_2, g2_0, g2_1, g2_2, -⟩ := hT.2.1.2.1.open3
          have hp1 := hT.1.1
          have hp2 := hT.2.1.1
          have hne := hT.2.2
          have hne2 := hT.2.2.symm
          refine wpAnyH_ready (rs := [6]) (by kernel_rfl) (by simp) ?_
          refine AllReadyH.cons (o := ⟨none, Op.store 89 (Operand.tmp 5) (Operand.tmp 8), 0, _, _, none⟩) rfl (fun K hK => ?_) AllReadyH.nil
          go_simp
          go_wp2_with fail
          refine hK.out _ _ ?_ (fun hHeld => ?_)
          · (with_reducible refine ⟨Since.cell ?_ x0, Since.cell ?_ x1, Since.cell ?_ x2, Since.cell ?_ y0, Since.cell ?_ y1, Since.cell ?_ y2, ?_⟩) <;> (repeat (first | with_reducible assumption | with_reducible exact Since.refl _ | with_reducible refine Since.alloc ?_ _ | with_reducible refine Since.drew ?_ | with_reducible refine since_set ?_ ?_ _ _))
          clear hK K
          try simp only [Act.put, List.setIfInBounds_toArray, List.set_cons_zero, List.set_cons_succ]
          refine wpAnyH_ready (rs := [7]) (by kernel_rfl) (by simp) ?_
          refine AllReadyH.cons (o := ⟨none, Op.store 89 (Operand.tmp 6) (Operand.tmp 10), 0, _, _, none⟩) rfl (fun K hK => ?_) AllReadyH.nil
          go_simp
          go_wp2_with fail
          refine hK.out _ _ ?_ (fun hHeld => ?_)
          · (with_reducible refine ⟨Since.cell ?_ x0, Since.cell ?_ x1, Since.cell ?_ x2, Since.cell ?_ y0, Since.cell ?_ y1, Since.cell ?_ y2, ?_⟩) <;> (repeat (first | with_reducible assumption | with_reducible exact Since.refl _ | with_reducible refine Since.alloc ?_ _ | with_reducible refine Since.drew ?_ | with_reducible refine since_set ?_ ?_ _ _))
          clear hK K
          try simp only [Act.put, List.setIfInBounds_toArray, List.set_cons_zero, List.set_cons_succ]
          refine wpAnyH_done (by kernel_rfl) ?_ _
          refine NoPanic.normal ?_
          go_wp2_with fail
          go_meet
          exact TwoBox.put (z := .int .i64 0) hT
      · go_simp
        try go_wp2_with fail
        refine hK.out _ _ ?_ (fun hHeld => ?_)
        · (with_reducible refine ⟨Since.cell ?_ x0, Since.cell ?_ x1, Since.cell ?_ x2, Since.cell ?_ y0, Since.cell ?_ y1, Since.cell ?_ y2, ?_⟩) <;> (repeat (first | with_reducible assumption | with_reducible exact Since.refl _ | with_reducible refine Since.alloc ?_ _ | with_reducible refine Since.drew ?_ | with_reducible refine since_set ?_ ?_ _ _))
        clear hK K
        try simp only [Act.put, List.setIfInBounds_toArray, List.set_cons_zero, List.set_cons_succ]
        obtain ⟨v32, hv32⟩ : ∃ v, v = World.alloc y26 (.cells #[.int .i64 0, .int .i64 0, .int .i64 0] 89) := ⟨_, rfl⟩
        obtain ⟨u32, hu32⟩ : ∃ v, v = World.alloc (World.drew y26) (.cells #[.int .i64 0, .int .i64 0, .int .i64 0] 89) := ⟨_, rfl⟩
        have hT0 : TwoBox W1 [.int .i64 0, .int .i64 0, .int .i64 0] (World.heap W1).size (World.heap y26).size v32 := by rw [hv32]; exact TwoBox.madeQ hN0 _
        have hU0 : TwoBox W1 [.int .i64 0, .int .i64 0, .int .i64 0] (World.heap W1).size (World.heap y26).size u32 := by rw [hu32]; exact TwoBox.madeQ (NewBox.drew hN0) _
        have hs32 : Since W1 v32 := hT0.1.2.2
        have hq32 : Since W1 u32 := hU0.1.2.2
        first | (rw [← hv32]; generalize v32 = y32 at *; have hsy32 := hs32; clear hu32 hU0 hq32 hs32 hv32) | (rw [← hu32]; clear hT0; have hT0 := hU0; generalize u32 = y32 at *; have hsy32 := hq32; clear hv32 hU0 hq32 hu32)
        clear hN0
        refine wpAnyH_ready (rs := [1]) (by kernel_rfl) (by simp) ?_
        refine AllReadyH.cons (o := ⟨some 8, Op.call { callee := Callee.value (Operand.func 68), args := #[Operand.tmp 7], argTypes := #[46] }, 89, _, _, none⟩) rfl (fun K hK => ?_) AllReadyH.nil
        go_simp
        go_at_call 68
        refine (KN.out _ _ _ _).mono ?_
        rintro e v33 ⟨rfl, hr⟩
        have hs33 : Since W1 v33 := by (with_reducible refine Since.step ?_ hr); (repeat (first | with_reducible assumption | with_reducible exact Since.refl _ | with_reducible refine Since.alloc ?_ _ | with_reducible refine Since.drew ?_ | with_reducible refine since_set ?_ ?_ _ _))
        first | have hT0 := hT0.step hr | have hT0 := (TwoBox.drew hT0).step hr
        clear hr
        try go_wp2_with fail
        refine hK.out _ _ ?_ (fun hHeld => ?_)
        · (with_reducible refine ⟨Since.cell ?_ x0, Since.cell ?_ x1, Since.cell ?_ x2, Since.cell ?_ y0, Since.cell ?_ y1, Since.cell ?_ y2, ?_⟩) <;> (repeat (first | with_reducible assumption | with_reducible exact Since.refl _ | with_reducible refine Since.alloc ?_ _ | with_reducible refine Since.drew ?_ | with_reducible refine since_set ?_ ?_ _ _))
        clear hK K
        try simp only [Act.put, List.setIfInBounds_toArray, List.set_cons_zero, List.set_cons_succ]
        refine wpAnyH_ready (rs := [3]) (by kernel_rfl) (by simp) ?_
        refine AllReadyH.cons (o := ⟨some 10, Op.call { callee := Callee.value (Operand.func 68), args := #[Operand.tmp 9], argTypes := #[46] }, 89, _, _, none⟩) rfl (fun K hK => ?_) AllReadyH.nil
        go_simp
        go_at_call 68
        refine (KN.out _ _ _ _).mono ?_
        rintro e v34 ⟨rfl, hr⟩
        have hs34 : Since W1 v34 := by (with_reducible refine Since.step ?_ hr); (repeat (first | with_reducible assumption | with_reducible exact Since.refl _ | with_reducible refine Since.alloc ?_ _ | with_reducible refine Since.drew ?_ | with_reducible refine since_set ?_ ?_ _ _))
        first | have hT0 := hT0.step hr | have hT0 := (TwoBox.drew hT0).step hr
        clear hr
        try go_wp2_with fail
        refine hK.out _ _ ?_ (fun hHeld => ?_)
        · (with_reducible refine ⟨Since.cell ?_ x0, Since.cell ?_ x1, Since.cell ?_ x2, Since.cell ?_ y0, Since.cell ?_ y1, Since.cell ?_ y2, ?_⟩) <;> (repeat (first | with_reducible assumption | with_reducible exact Since.refl _ | with_reducible refine Since.alloc ?_ _ | with_reducible refine Since.drew ?_ | with_reducible refine since_set ?_ ?_ _ _))
        clear hK K
        try simp only [Act.put, List.setIfInBounds_toArray, List.set_cons_zero, List.set_cons_succ]
        have hT := hT0.symm
        obtain ⟨b1_0, b1_1, b1_2, g1_0, g1_1, g1_2, -⟩ := hT.1.2.1.open3
        obtain ⟨b2_0, b2_1, b2_2, g2_0, g2_1, g2_2, -⟩ := hT.2.1.2.1.open3
        have hp1 := hT.1.1
        have hp2 := hT.2.1.1
        have hne := hT.2.2
        have hne2 := hT.2.2.symm
        refine wpAnyH_ready (rs := [6]) (by kernel_rfl) (by simp) ?_
        refine AllReadyH.cons (o := ⟨none, Op.store 89 (Operand.tmp 5) (Operand.tmp 8), 0, _, _, none⟩) rfl (fun K hK => ?_) AllReadyH.nil
        go_simp
        go_wp2_with fail
        refine hK.out _ _ ?_ (fun hHeld => ?_)
        · (with_reducible refine ⟨Since.cell ?_ x0, Since.cell ?_ x1, Since.cell ?_ x2, Since.cell ?_ y0, Since.cell ?_ y1, Since.cell ?_ y2, ?_⟩) <;> (repeat (first | with_reducible assumption | with_reducible exact Since.refl _ | with_reducible refine Since.alloc ?_ _ | with_reducible refine Since.drew ?_ | with_reducible refine since_set ?_ ?_ _ _))
        clear hK K
        try simp only [Act.put, List.setIfInBounds_toArray, List.set_cons_zero, List.set_cons_succ]
        refine wpAnyH_ready (rs := [7]) (by kernel_rfl) (by simp) ?_
        refine AllReadyH.cons (o := ⟨none, Op.store 89 (Operand.tmp 6) (Operand.tmp 10), 0, _, _, none⟩) rfl (fun K hK => ?_) AllReadyH.nil
        go_simp
        go_wp2_with fail
        refine hK.out _ _ ?_ (fun hHeld => ?_)
        · (with_reducible refine ⟨Since.cell ?_ x0, Since.cell ?_ x1, Since.cell ?_ x2, Since.cell ?_ y0, Since.cell ?_ y1, Since.cell ?_ y2, ?_⟩) <;> (repeat (first | with_reducible assumption | with_reducible exact Since.refl _ | with_reducible refine Since.alloc ?_ _ | with_reducible refine Since.drew ?_ | with_reducible refine since_set ?_ ?_ _ _))
        clear hK K
        try simp only [Act.put, List.setIfInBounds_toArray, List.set_cons_zero, List.set_cons_succ]
        refine wpAnyH_done (by kernel_rfl) ?_ _
        refine NoPanic.normal ?_
        go_wp2_with fail
        go_meet
        exact TwoBox.put (z := .int .i64 0) hT
  case rest =>
    obtain ⟨P, Q, rfl, rfl, hP, hQ, hS⟩ := hcut
    rename World => w2
    have HB2 := Lib.hid (HB1.out.trans (Below.mono hS HB1.out.size))
    have hSd : Since w2 w2.drew := Since.drew (Since.refl _)
    have KQ := Lib.hid (KL.out P Q w2.drew (hP.keep hSd) (hQ.keep hSd))
    obtain ⟨p0, p1, p2, -⟩ := hP.open3
    obtain ⟨q0, q1, q2, -⟩ := hQ.open3
    clear x0 x1 x2 y0 y1 y2 hS
    go_upto_region 2 with (fail)
    go_region_held3 (fun w' => Since w2 w')
      (first | exact hSd | exact hB2)
      ((go_at_call 56; refine (KQ.out).mono ?_; rintro e w' ⟨rfl, hr⟩; have hB2 : Since w2 w' := Since.step hSd hr))
    go_wp2
    go_ret
    exact ⟨rfl, HB2.out.trans (Below.mono hB2 HB2.out.size)⟩

set_option maxHeartbeats 4000000 in
set_option maxRecDepth 100000 in
theorem clv_any (a : Option Addr) (n c : Nat) (b : Option Addr) (m d : Nat) (xs ys : List Va) (w : World) (hx : REls RVa w (.slice a n c) xs) (hy : REls RVa w (.slice b m d) ys) (hn : n ≤ 1000000000) (hm : m ≤ 1000000000) :
    Calls Tryz.prog 58 #[.slice a n c, .slice b m d, .func (.func 38) #[] #[]] w fun e w' => e = .returned (.int .i64 (lexL vcmp xs ys)) ∧ Below w.heap.size w w' := by
  obtain ⟨q, hq1, hq2, hq3, hq4⟩ := min_nat n m
  have HX := Lib.hid hx
  have HY := Lib.hid hy
  have HXN := Lib.hid hx.len
  have HYN := Lib.hid hy.len
  have HQ : Hid (q = n ∨ q = m) := Lib.hid hq3
  have hst : lexL vcmp (xs.drop 0) (ys.drop 0) = lexL vcmp xs ys := rfl
  generalize lexL vcmp xs ys = R at *
  have HST := Lib.hid hst
  have KC := Lib.hid fun (x y : Int) W => cmpc_any x y W
  have KV := Lib.hid fun (v u : Va) W => cmpv_any v u W
  unfold Va.v at KV
  have HS0 : Hid (Since w w) := Lib.hid (Below.refl _ _)
  clear hx hy hq3 hst
  rcases hq4 with ⟨hle, hmin⟩ | ⟨hle, hmin⟩
  all_goals
    go_enter Tryz.func58, Tryz.ntmps58
    go_wp2
    go_loopw [14] (fun x wr => ∃ k : Nat, k ≤ q ∧ x = .int .i64 k ∧ Hid (lexL vcmp (xs.drop k) (ys.drop k) = R) ∧ Hid (Since w wr)) (fun x _ => q - (intOf x).toNat)
    case atStart => exact ⟨0, by omega, rfl, HST, HS0⟩
    case round =>
      obtain ⟨k, hk, rfl, hV, hS⟩ := hrel
      by_cases hlt : k < q
      · have i1 : (k : Int) < q := by omega
        have i2 : k < n := by omega
        have i3 : k < m := by omega
        have i4 : (k : Int) < n := by omega
        have i5 : (k : Int) < m := by omega
        have hEx := HX.out.below (Below.toBelow hS.out)
        have hEy := HY.out.below (Below.toBelow hS.out)
        obtain ⟨x, hx⟩ : ∃ x, xs[k]? = some x := ⟨xs[k]'(by rw [← HXN.out]; exact i2), List.getElem?_eq_getElem _⟩
        obtain ⟨y, hy⟩ : ∃ y, ys[k]? = some y := ⟨ys[k]'(by rw [← HYN.out]; exact i3), List.getElem?_eq_getElem _⟩
        obtain ⟨g1, rfl, -⟩ := hEx.get i2
        obtain ⟨g2, rfl, -⟩ := hEy.get i3
        obtain ⟨p0, p1, p2, -⟩ := va_at hEx hx
        obtain ⟨r0, r1, r2, -⟩ := va_at hEy hy
        have hstep := lexL_step vcmp hx hy
        have KQ := Lib.hid fun W => KV.out x y W
        have hSd : Since wr wr.drew := Since.drew (Since.refl _)
        generalize vcmp x y = v at *
        rw [hV.out] at hstep
        clear hx hy hEx hEy hV
        obtain ⟨xt, xn, xd⟩ := x
        obtain ⟨yt, yn, yd⟩ := y
        simp only at *
        by_cases hv : v = 0
        · subst hv
          rw [if_pos rfl] at hstep
          have HV := Lib.hid hstep.symm
          clear hstep
          go_upto_region 4 with (fail)
          go_region_held3 (fun w' => w'.cell? ⟨g1, k * 3, none⟩ = some (.int .i64 xt) ∧ w'.cell? ⟨g1, k * 3 + 1, none⟩ = some (.int .i64 xn) ∧ w'.cell? ⟨g1, k * 3 + 2, none⟩ = some (.int .i64 xd) ∧ w'.cell? ⟨g2, k * 3, none⟩ = some (.int .i64 yt) ∧ w'.cell? ⟨g2, k * 3 + 1, none⟩ = some (.int .i64 yn) ∧ w'.cell? ⟨g2, k * 3 + 2, none⟩ = some (.int .i64 yd) ∧ Since wr w')
            (first | exact ⟨p0, p1, p2, r0, r1, r2, hSd⟩ | exact ⟨Since.cell hB2 p0, Since.cell hB2 p1, Since.cell hB2 p2, Since.cell hB2 r0, Since.cell hB2 r1, Since.cell hB2 r2, hB2⟩)
            ((go_at_call 38; refine (KQ.out _).mono ?_; rintro e w' ⟨rfl, hr⟩; have hB2 : Since wr w' := Since.step hSd hr; clear hr))
          have HS2 := Lib.hid (Since.step hS.out hB2)
          clear hB2 hSd p0 p1 p2 r0 r1 r2 hS
          go_wp2
          go_roundw
          case rel => exact ⟨k + 1, by omega, by go_num, HV, HS2⟩
          case measure => simp [intOf]; omega
        · rw [if_neg hv] at hstep
          have HV := Lib.hid hstep
          have hv2 : (v != 0) = true := bne_iff_ne.2 hv
          clear hstep hv
          go_upto_region 4 with (fail)
          go_region_held3 (fun w' => w'.cell? ⟨g1, k * 3, none⟩ = some (.int .i64 xt) ∧ w'.cell? ⟨g1, k * 3 + 1, none⟩ = some (.int .i64 xn) ∧ w'.cell? ⟨g1, k * 3 + 2, none⟩ = some (.int .i64 xd) ∧ w'.cell? ⟨g2, k * 3, none⟩ = some (.int .i64 yt) ∧ w'.cell? ⟨g2, k * 3 + 1, none⟩ = some (.int .i64 yn) ∧ w'.cell? ⟨g2, k * 3 + 2, none⟩ = some (.int .i64 yd) ∧ Since wr w')
            (first | exact ⟨p0, p1, p2, r0, r1, r2, hSd⟩ | exact ⟨Since.cell hB2 p0, Since.cell hB2 p1, Since.cell hB2 p2, Since.cell hB2 r0, Since.cell hB2 r1, Since.cell hB2 r2, hB2⟩)
            ((go_at_call 38; refine (KQ.out _).mono ?_; rintro e w' ⟨rfl, hr⟩; have hB2 : Since wr w' := Since.step hSd hr; clear hr))
          have HS2 := Lib.hid (Since.step hS.out hB2)
          clear hB2 hSd p0 p1 p2 r0 r1 r2 hS
          go_wp2
          go_ret
          exact ⟨ret_int HV.out.symm, HS2.out⟩
      · have i1 : ¬ (k : Int) < q := by omega
        have hend := lexL_stop vcmp (la := xs) (bs := ys) (k := k) (by have := HXN.out; omega) (by have := HYN.out; omega) (by have := HXN.out; have := HYN.out; have := HQ.out; omega)
        rw [← HXN.out, ← HYN.out, hV.out] at hend
        have HV := Lib.hid hend
        have KE := Lib.hid fun W => KC.out (n : Int) (m : Int) W
        clear hend hV
        go_wp2_with fail
        refine (KE.out _).mono ?_
        rintro e w2 ⟨rfl, rfl⟩
        go_wp2
        go_ret
        exact ⟨ret_int HV.out.symm, hS.out⟩

def TCmpK (m : Nat) : Prop := ∀ (t : Th), t.size ≤ m → CmpOk t → ∀ (u : Th), CmpOk u → ∀ (a b c a' b' c' : Value) (W : World), TAt W.heap.size W t a b c → TAt W.heap.size W u a' b' c' →
  Calls Tryz.prog 30 #[.agg #[a, b, c], .agg #[a', b', c']] W fun e w' => e = .returned (.int .i64 (Th.cmp t u)) ∧ Below W.heap.size W w'

set_option maxHeartbeats 4000000 in
set_option maxRecDepth 100000 in
theorem clt_any (M : Nat) (KT : Hid (TCmpK M)) (a : Option Addr) (n c : Nat) (b : Option Addr) (m d : Nat) (xs ys : List Th) (w : World) (hx : Ps w.heap.size w (.slice a n c) xs) (hy : Ps w.heap.size w (.slice b m d) ys) (hn : n ≤ 1000000000) (hm : m ≤ 1000000000)
    (hs : ∀ t ∈ xs, t.size ≤ M ∧ CmpOk t) (hs2 : ∀ t ∈ ys, CmpOk t) :
    Calls Tryz.prog 59 #[.slice a n c, .slice b m d, .func (.func 30) #[] #[]] w fun e w' => e = .returned (.int .i64 (lexL Th.cmp xs ys)) ∧ Below w.heap.size w w' := by
  obtain ⟨q, hq1, hq2, hq3, hq4⟩ := min_nat n m
  have HX := Lib.hid hx
  have HY := Lib.hid hy
  have HXN := Lib.hid hx.len
  have HYN := Lib.hid hy.len
  have HQ : Hid (q = n ∨ q = m) := Lib.hid hq3
  have hst : lexL Th.cmp (xs.drop 0) (ys.drop 0) = lexL Th.cmp xs ys := rfl
  generalize lexL Th.cmp xs ys = R at *
  have HST := Lib.hid hst
  have KC := Lib.hid fun (x y : Int) W => cmpc_any x y W
  have HM := Lib.hid hs
  have HM2 := Lib.hid hs2
  have HS0 : Hid (Since w w) := Lib.hid (Below.refl _ _)
  clear hx hy hq3 hst hs hs2
  rcases hq4 with ⟨hle, hmin⟩ | ⟨hle, hmin⟩
  all_goals
    go_enter Tryz.func59, Tryz.ntmps59
    go_wp2
    go_loopw [14] (fun x wr => ∃ k : Nat, k ≤ q ∧ x = .int .i64 k ∧ Hid (lexL Th.cmp (xs.drop k) (ys.drop k) = R) ∧ Hid (Since w wr)) (fun x _ => q - (intOf x).toNat)
    case atStart => exact ⟨0, by omega, rfl, HST, HS0⟩
    case round =>
      obtain ⟨k, hk, rfl, hV, hS⟩ := hrel
      by_cases hlt : k < q
      · have i1 : (k : Int) < q := by omega
        have i2 : k < n := by omega
        have i3 : k < m := by omega
        have i4 : (k : Int) < n := by omega
        have i5 : (k : Int) < m := by omega
        obtain ⟨g1, x, rfl, -, -, -, hx, x1, x2, x3, p0, p1, p2, hTx⟩ := (HX.out.below (Below.toBelow hS.out)).get i2
        obtain ⟨g2, y, rfl, -, -, -, hy, y1, y2, y3, r0, r1, r2, hTy⟩ := (HY.out.below (Below.toBelow hS.out)).get i3
        have hmx := HM.out x (List.mem_of_getElem? hx)
        have hmy := HM2.out y (List.mem_of_getElem? hy)
        have hstep := lexL_step Th.cmp hx hy
        have hSd : Since wr wr.drew := Since.drew (Since.refl _)
        have KQ := Lib.hid (KT.out x hmx.1 hmx.2 y hmy _ _ _ _ _ _ wr.drew (TAt.below (Below.toBelow hSd) hTx) (TAt.below (Below.toBelow hSd) hTy))
        generalize Th.cmp x y = v at *
        rw [hV.out] at hstep
        obtain ⟨⟨a1, n1, c1, a2, n2, c2, a3, n3, c3⟩, rfl, rfl, rfl, -⟩ := (TAt.ts x hTx).shape
        obtain ⟨⟨a4, n4, c4, a5, n5, c5, a6, n6, c6⟩, rfl, rfl, rfl, -⟩ := (TAt.ts y hTy).shape
        simp only at p0 p1 p2 r0 r1 r2 KQ
        clear hx hy hV hTx hTy hmx hmy
        by_cases hv : v = 0
        · subst hv
          rw [if_pos rfl] at hstep
          have HV := Lib.hid hstep.symm
          clear hstep
          go_upto_region 4 with (fail)
          go_region_held3 (fun w' => w'.cell? ⟨g1, k * 3, none⟩ = some (.slice a1 n1 c1) ∧ w'.cell? ⟨g1, k * 3 + 1, none⟩ = some (.slice a2 n2 c2) ∧ w'.cell? ⟨g1, k * 3 + 2, none⟩ = some (.slice a3 n3 c3) ∧ w'.cell? ⟨g2, k * 3, none⟩ = some (.slice a4 n4 c4) ∧ w'.cell? ⟨g2, k * 3 + 1, none⟩ = some (.slice a5 n5 c5) ∧ w'.cell? ⟨g2, k * 3 + 2, none⟩ = some (.slice a6 n6 c6) ∧ Since wr w')
            (first | exact ⟨p0, p1, p2, r0, r1, r2, hSd⟩ | exact ⟨Since.cell hB2 p0, Since.cell hB2 p1, Since.cell hB2 p2, Since.cell hB2 r0, Since.cell hB2 r1, Since.cell hB2 r2, hB2⟩)
            ((go_at_call 30; refine KQ.out.mono ?_; rintro e w' ⟨rfl, hr⟩; have hB2 : Since wr w' := Since.step hSd hr; clear hr))
          have HS2 := Lib.hid (Since.step hS.out hB2)
          clear hB2 hSd p0 p1 p2 r0 r1 r2 hS
          go_wp2
          go_roundw
          case rel => exact ⟨k + 1, by omega, by go_num, HV, HS2⟩
          case measure => simp [intOf]; omega
        · rw [if_neg hv] at hstep
          have HV := Lib.hid hstep
          have hv2 : (v != 0) = true := bne_iff_ne.2 hv
          clear hstep hv
          go_upto_region 4 with (fail)
          go_region_held3 (fun w' => w'.cell? ⟨g1, k * 3, none⟩ = some (.slice a1 n1 c1) ∧ w'.cell? ⟨g1, k * 3 + 1, none⟩ = some (.slice a2 n2 c2) ∧ w'.cell? ⟨g1, k * 3 + 2, none⟩ = some (.slice a3 n3 c3) ∧ w'.cell? ⟨g2, k * 3, none⟩ = some (.slice a4 n4 c4) ∧ w'.cell? ⟨g2, k * 3 + 1, none⟩ = some (.slice a5 n5 c5) ∧ w'.cell? ⟨g2, k * 3 + 2, none⟩ = some (.slice a6 n6 c6) ∧ Since wr w')
            (first | exact ⟨p0, p1, p2, r0, r1, r2, hSd⟩ | exact ⟨Since.cell hB2 p0, Since.cell hB2 p1, Since.cell hB2 p2, Since.cell hB2 r0, Since.cell hB2 r1, Since.cell hB2 r2, hB2⟩)
            ((go_at_call 30; refine KQ.out.mono ?_; rintro e w' ⟨rfl, hr⟩; have hB2 : Since wr w' := Since.step hSd hr; clear hr))
          have HS2 := Lib.hid (Since.step hS.out hB2)
          clear hB2 hSd p0 p1 p2 r0 r1 r2 hS
          go_wp2
          go_ret
          exact ⟨ret_int HV.out.symm, HS2.out⟩
      · have i1 : ¬ (k : Int) < q := by omega
        have hend := lexL_stop Th.cmp (la := xs) (bs := ys) (k := k) (by have := HXN.out; omega) (by have := HYN.out; omega) (by have := HXN.out; have := HYN.out; have := HQ.out; omega)
        rw [← HXN.out, ← HYN.out, hV.out] at hend
        have HV := Lib.hid hend
        have KE := Lib.hid fun W => KC.out (n : Int) (m : Int) W
        clear hend hV
        go_wp2_with fail
        refine (KE.out _).mono ?_
        rintro e w2 ⟨rfl, rfl⟩
        go_wp2
        go_ret
        exact ⟨ret_int HV.out.symm, hS.out⟩

set_option maxHeartbeats 4000000 in
set_option maxRecDepth 100000 in
theorem tcmp_step (M : Nat) (KT : Hid (TCmpK M)) : TCmpK (M + 1) := by
  intro t ht hto u huo a b c a' b' c' w hT hU
  have hpt := cmp_parts t u
  obtain ⟨a1, c1, a2, c2, a3, c3, rfl, rfl, rfl, hC, hV, hP, -, -⟩ := hT.shape
  obtain ⟨a4, c4, a5, c5, a6, c6, rfl, rfl, rfl, hC', hV', hP', -, -⟩ := hU.shape
  obtain ⟨l1, l2, l3⟩ := hto.len
  obtain ⟨l4, l5, l6⟩ := huo.len
  have hsz := t.size_eq
  have K1 := Lib.hid fun W (hB : Below w.heap.size w W) => cli_any a1 _ c1 a4 _ c4 _ _ W (hC.below (Below.toBelow hB)) (hC'.below (Below.toBelow hB)) (by omega) (by omega)
  have K2 := Lib.hid fun W (hB : Below w.heap.size w W) => clv_any a2 _ c2 a5 _ c5 _ _ W (hV.below (Below.toBelow hB)) (hV'.below (Below.toBelow hB)) (by omega) (by omega)
  have K3 := Lib.hid fun W (hB : Below w.heap.size w W) => clt_any M KT a3 _ c3 a6 _ c6 _ _ W (hP.below (Below.toBelow hB)) (hP'.below (Below.toBelow hB)) (by omega) (by omega) (fun v hv => ⟨by have := Th.sizes_mem hv; omega, hto.kid hv⟩) (fun v hv => huo.kid hv)
  obtain ⟨W1, hW1⟩ : ∃ W1, W1 = (w.alloc (.cells #[.slice a1 t.cs.length c1, .slice a2 t.vs.length c2, .slice a3 t.ps.length c3] 27)).alloc (.cells #[.slice a4 u.cs.length c4, .slice a5 u.vs.length c5, .slice a6 u.ps.length c6] 27) := ⟨_, rfl⟩
  have hX : BoxL w.heap.size [.slice a1 t.cs.length c1, .slice a2 t.vs.length c2, .slice a3 t.ps.length c3] W1 := by rw [hW1]; exact (BoxL.made w _ _).under _
  have hY : BoxL (w.heap.size + 1) [.slice a4 u.cs.length c4, .slice a5 u.vs.length c5, .slice a6 u.ps.length c6] W1 := by
    rw [hW1]
    have := BoxL.made (w.alloc (.cells #[.slice a1 t.cs.length c1, .slice a2 t.vs.length c2, .slice a3 t.ps.length c3] 27)) #[.slice a4 u.cs.length c4, .slice a5 u.vs.length c5, .slice a6 u.ps.length c6] 27
    rwa [World.size_alloc] at this
  have hB : Below w.heap.size w W1 := by rw [hW1]; exact ((Below.refl _ _).alloc (Nat.le_refl _) _).alloc (by simp) _
  have HB1 := Lib.hid hB
  have HX1 := Lib.hid hX
  have HY1 := Lib.hid hY
  generalize t.cs.length = n1 at *
  generalize t.vs.length = n2 at *
  generalize t.ps.length = n3 at *
  generalize u.cs.length = n4 at *
  generalize u.vs.length = n5 at *
  generalize u.ps.length = n6 at *
  generalize Th.cmp t u = R at *
  generalize lexL cmpI t.cs u.cs = R1 at *
  generalize lexL vcmp t.vs u.vs = R2 at *
  generalize lexL Th.cmp t.ps u.ps = R3 at *
  obtain ⟨x0, x1, x2, -⟩ := hX.open3
  obtain ⟨y0, y1, y2, -⟩ := hY.open3
  clear hC hV hP hC' hV' hP' hT hU hX hY hB hto huo hsz l1 l2 l3 l4 l5 l6 ht KT
  go_enter Tryz.func30, Tryz.ntmps30
  go_upto_region 1 with (fail)
  rw [← hW1]
  generalize w.heap.size + 1 = N1 at *
  clear hW1
  go_wp2_with fail
  refine (K1.out _ HB1.out).mono ?_
  rintro e w2 ⟨rfl, hr⟩
  have HB2 := Lib.hid (HB1.out.trans (hr.mono HB1.out.size))
  have HX2 := Lib.hid (HX1.out.keep (Below.toBelow hr))
  have HY2 := Lib.hid (HY1.out.keep (Below.toBelow hr))
  clear hr x0 x1 x2 y0 y1 y2 HX1 HY1
  by_cases h1 : R1 = 0
  · obtain ⟨x0, x1, x2, -⟩ := HX2.out.open3
    obtain ⟨y0, y1, y2, -⟩ := HY2.out.open3
    have hpt2 := hpt.2.1 h1
    have hpt3 := hpt.2.2 h1
    subst h1
    clear hpt
    go_wp2_with fail
    refine (K2.out _ HB2.out).mono ?_
    rintro e w3 ⟨rfl, hr⟩
    have HB3 := Lib.hid (HB2.out.trans (hr.mono HB2.out.size))
    have HX3 := Lib.hid (HX2.out.keep (Below.toBelow hr))
    have HY3 := Lib.hid (HY2.out.keep (Below.toBelow hr))
    clear hr x0 x1 x2 y0 y1 y2 HX2 HY2
    by_cases h2 : R2 = 0
    · obtain ⟨x0, x1, x2, -⟩ := HX3.out.open3
      obtain ⟨y0, y1, y2, -⟩ := HY3.out.open3
      have HR := Lib.hid (hpt3 h2)
      subst h2
      clear hpt2 hpt3
      go_wp2_with fail
      refine (K3.out _ HB3.out).mono ?_
      rintro e w4 ⟨rfl, hr⟩
      have HB4 := Lib.hid (HB3.out.trans (hr.mono HB3.out.size))
      clear hr
      go_wp2
      go_ret
      exact ⟨ret_int HR.out.symm, HB4.out⟩
    · have HR := Lib.hid (hpt2 h2)
      have hv2 : (R2 != 0) = true := bne_iff_ne.2 h2
      clear hpt2 hpt3 h2
      go_wp2
      go_ret
      exact ⟨ret_int HR.out.symm, HB3.out⟩
  · have HR := Lib.hid (hpt.1 h1)
    have hv2 : (R1 != 0) = true := bne_iff_ne.2 h1
    clear hpt h1
    go_wp2
    go_ret
    exact ⟨ret_int HR.out.symm, HB2.out⟩

theorem tcmp_all : ∀ M : Nat, TCmpK M
  | 0 => fun u hu => by have := u.size_pos; omega
  | M + 1 => tcmp_step M (Lib.hid (tcmp_all M))

end Go.Proofs.YtelhpndlejommaaGreat.W
