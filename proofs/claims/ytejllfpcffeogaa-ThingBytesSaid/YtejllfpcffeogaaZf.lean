/- Value of package thing and of the reference. -/
import Derived.Test.YtejllfpcffeogaaZe
namespace Go.Proofs.Ytejllfpcffeogaa
open Go.RowKit Go.Shelf

/-- The value of an attribute. -/
def valV : List Va → Int → Int × Int × Bool
  | [], _ => (0, 0, false)
  | v :: vs, a => if v.t = a then (v.n, v.d, true) else valV vs a

theorem valV_skip {vs : List Va} {a : Int} {k : Nat} {v : Va} (h : vs[k]? = some v) (hn : v.t ≠ a) : valV (vs.drop k) a = valV (vs.drop (k + 1)) a := by
  have hk := (List.getElem?_eq_some_iff.1 h).1
  have e : vs.drop k = v :: vs.drop (k + 1) := by
    rw [List.drop_eq_getElem_cons hk, (List.getElem?_eq_some_iff.1 h).2]
  rw [e, valV, if_neg hn]

theorem valV_hit {vs : List Va} {k : Nat} {v : Va} (h : vs[k]? = some v) : valV (vs.drop k) v.t = (v.n, v.d, true) := by
  have hk := (List.getElem?_eq_some_iff.1 h).1
  have e : vs.drop k = v :: vs.drop (k + 1) := by
    rw [List.drop_eq_getElem_cons hk, (List.getElem?_eq_some_iff.1 h).2]
  rw [e, valV, if_pos rfl]

/-- What Value leaves. -/
def ValOut (r : Int × Int × Bool) (w : World) (e : Ending) (w' : World) : Prop := e = .returned (.tuple #[.agg #[.int .i64 r.1, .int .i64 r.2.1], .bool r.2.2]) ∧ Below w.heap.size w w'

set_option maxHeartbeats 4000000 in
set_option maxRecDepth 100000 in
theorem tvalue_any (t : Th) (at' : Int) (a b c : Value) (w : World) (h : TAt w.heap.size w t a b c) (hl : t.vs.length ≤ 1000000) :
    Calls Try.prog 15 #[.agg #[a, b, c], .int .i64 at'] w (ValOut (valV t.vs at') w) := by
  obtain ⟨a1, c1, a2, c2, a3, c3, rfl, rfl, rfl, -, hE, -, -, -⟩ := h.shape
  have HE := Lib.hid hE
  generalize t.cs.length = m1 at *
  generalize t.ps.length = m3 at *
  generalize t.vs = vs at *
  have hst : valV (vs.drop 0) at' = valV vs at' := rfl
  generalize valV vs at' = R at *
  have HST := Lib.hid hst
  have hX := BoxL.made (w.alloc (.cells #[.slice a1 m1 c1, .slice a2 vs.length c2, .slice a3 m3 c3] 29)) #[.int .i64 0, .int .i64 0] 32
  have hB : Below w.heap.size w ((w.alloc (.cells #[.slice a1 m1 c1, .slice a2 vs.length c2, .slice a3 m3 c3] 29)).alloc (.cells #[.int .i64 0, .int .i64 0] 32)) := ((Below.refl _ _).alloc (Nat.le_refl _) _).alloc (by simp) _
  rw [World.size_alloc] at hX
  have HX := Lib.hid hX
  have HB := Lib.hid hB
  generalize hn : vs.length = n at *
  have HN := Lib.hid hn
  clear h hE hst hX hB hn
  go_enter Try.func15, Try.ntmps15
  go_wp2
  go_loopw [11] (fun x wr => ∃ k : Nat, k ≤ n ∧ x = .int .i64 k ∧ Hid (valV (vs.drop k) at' = R) ∧ Hid (BoxL (w.heap.size + 1) [.int .i64 0, .int .i64 0] wr) ∧ Hid (Below w.heap.size w wr)) (fun x _ => n + 1 - (intOf x).toNat)
  case atStart => exact ⟨0, by omega, rfl, HST, HX, HB⟩
  case round =>
    obtain ⟨k, hk, rfl, hV, hX, hB⟩ := hrel
    clear HX HB HST
    by_cases hlt : k < n
    · have i1 : (k : Int) < n := by omega
      obtain ⟨v, hv⟩ : ∃ v, vs[k]? = some v := ⟨_, List.getElem?_eq_getElem (by rw [HN.out]; exact hlt)⟩
      have hEw := HE.out.below hB.out
      obtain ⟨g, rfl, -⟩ := hEw.get hlt
      obtain ⟨t0, t1, t2, -⟩ := va_at hEw hv
      have hXu := Lib.hid (hX.out.under (.cells #[.int .i64 v.t, .int .i64 v.n, .int .i64 v.d] 61))
      have hBu := Lib.hid (hB.out.alloc hB.out.size (.cells #[.int .i64 v.t, .int .i64 v.n, .int .i64 v.d] 61))
      by_cases he : v.t = at'
      · subst he
        have hh := valV_hit hv
        obtain ⟨vt, vn, vd⟩ := v
        simp only at *
        have HR : Hid (R = (vn, vd, true)) := Lib.hid (by rw [← hV.out, hh])
        obtain ⟨b0, b1, f0, f1, hz⟩ := hXu.out.open2
        clear hh hv hEw hV hX hB
        go_wp2
        exact bodyPost_ret (v := .tuple #[.agg #[.int .i64 vn, .int .i64 vd], .bool true]) (by simp [results, Try.results15, go_sem, b0, b1]) rfl ⟨by rw [HR.out], (hBu.out.setCell (p := ⟨w.heap.size + 1, 0, none⟩) (by simp) _).setCell (p := ⟨w.heap.size + 1, 1, none⟩) (by simp) _⟩
      · have hs := valV_skip hv he
        have hne : (v.t == at') = false := beq_eq_false_iff_ne.2 he
        obtain ⟨vt, vn, vd⟩ := v
        simp only at *
        have HV := Lib.hid (hs.symm.trans hV.out)
        clear hs hv he hEw hV hX hB
        go_wp2
        go_roundw
        case rel => exact ⟨k + 1, by omega, by go_num, HV, hXu, hBu⟩
        case measure => simp [intOf]; omega
    · have i1 : ¬ (k : Int) < n := by omega
      have hnil : vs.drop k = [] := List.drop_of_length_le (by rw [HN.out]; omega)
      have HR : Hid (R = (0, 0, false)) := Lib.hid (by rw [← hV.out, hnil]; rfl)
      obtain ⟨b0, b1, f0, f1, hz⟩ := hX.out.open2
      clear hnil hV
      go_wp2
      exact bodyPost_ret (v := .tuple #[.agg #[.int .i64 0, .int .i64 0], .bool false]) (by simp [results, Try.results15, go_sem, b0, b1]) rfl ⟨by rw [HR.out], (hB.out.setCell (p := ⟨w.heap.size + 1, 0, none⟩) (by simp) _).setCell (p := ⟨w.heap.size + 1, 1, none⟩) (by simp) _⟩

set_option maxHeartbeats 4000000 in
set_option maxRecDepth 100000 in
theorem rvalue_any (t : Th) (at' : Int) (a b c : Value) (w : World) (h : TAt w.heap.size w t a b c) (hl : t.vs.length ≤ 1000000) :
    Calls Try.prog 16 #[.agg #[a, b, c], .int .i64 at'] w (ValOut (valV t.vs at') w) := by
  obtain ⟨a1, c1, a2, c2, a3, c3, rfl, rfl, rfl, -, hE, -, -, -⟩ := h.shape
  have HE := Lib.hid hE
  generalize t.cs.length = m1 at *
  generalize t.ps.length = m3 at *
  generalize t.vs = vs at *
  have hst : valV (vs.drop 0) at' = valV vs at' := rfl
  generalize valV vs at' = R at *
  have HST := Lib.hid hst
  have hX := BoxL.made (w.alloc (.cells #[.slice a1 m1 c1, .slice a2 vs.length c2, .slice a3 m3 c3] 29)) #[.int .i64 0, .int .i64 0] 32
  have hY := (BoxL.made w #[.slice a1 m1 c1, .slice a2 vs.length c2, .slice a3 m3 c3] 29).under (.cells #[.int .i64 0, .int .i64 0] 32)
  have hB : Below w.heap.size w ((w.alloc (.cells #[.slice a1 m1 c1, .slice a2 vs.length c2, .slice a3 m3 c3] 29)).alloc (.cells #[.int .i64 0, .int .i64 0] 32)) := ((Below.refl _ _).alloc (Nat.le_refl _) _).alloc (by simp) _
  rw [World.size_alloc] at hX
  have hsz : ((w.alloc (.cells #[.slice a1 m1 c1, .slice a2 vs.length c2, .slice a3 m3 c3] 29)).alloc (.cells #[.int .i64 0, .int .i64 0] 32)).heap.size = w.heap.size + 1 + 1 := by simp
  obtain ⟨W0, hW0⟩ : ∃ W0, W0 = (w.alloc (.cells #[.slice a1 m1 c1, .slice a2 vs.length c2, .slice a3 m3 c3] 29)).alloc (.cells #[.int .i64 0, .int .i64 0] 32) := ⟨_, rfl⟩
  rw [← hW0] at hX hY hB hsz
  have HX := Lib.hid hX
  have HY := Lib.hid hY
  have HB := Lib.hid hB
  have HS0 : Hid (Since W0 W0) := Lib.hid (Below.refl _ _)
  have HSZ := Lib.hid hsz
  generalize hn : vs.length = n at *
  have HN := Lib.hid hn
  clear h hE hst hX hY hB hn hsz
  go_enter Try.func16, Try.ntmps16
  go_upto_region 1 with (fail)
  rw [← hW0]
  clear hW0
  go_wp2
  go_loopw [6] (fun x wr => ∃ k : Nat, k ≤ n ∧ x = .int .i64 k ∧ Hid (valV (vs.drop k) at' = R) ∧ Hid (Since W0 wr)) (fun x _ => n + 1 - (intOf x).toNat)
  case atStart => exact ⟨0, by omega, rfl, HST, HS0⟩
  case round =>
    obtain ⟨k, hk, rfl, hV, hS⟩ := hrel
    have hBw := Lib.hid (HB.out.trans (Below.mono hS.out HB.out.size))
    obtain ⟨y0, y1, y2, -, -, -, -⟩ := (HY.out.keep hS.out).open3
    obtain ⟨b0, b1, f0, f1, hz⟩ := (HX.out.keep hS.out).open2
    clear HST HS0
    by_cases hlt : k < n
    · have i1 : (k : Int) < n := by omega
      obtain ⟨v, hv⟩ : ∃ v, vs[k]? = some v := ⟨_, List.getElem?_eq_getElem (by rw [HN.out]; exact hlt)⟩
      have hEw := HE.out.below hBw.out
      obtain ⟨g, rfl, -⟩ := hEw.get hlt
      obtain ⟨t0, t1, t2, -⟩ := va_at hEw hv
      by_cases he : v.t = at'
      · subst he
        have hh := valV_hit hv
        obtain ⟨vt, vn, vd⟩ := v
        simp only at *
        have HR : Hid (R = (vn, vd, true)) := Lib.hid (by rw [← hV.out, hh])
        clear hh hv hEw hV
        go_wp2
        exact bodyPost_ret (v := .tuple #[.agg #[.int .i64 vn, .int .i64 vd], .bool true]) (by simp [results, Try.results16, go_sem, b0, b1]) rfl ⟨by rw [HR.out], (hBw.out.setCell (p := ⟨w.heap.size + 1, 0, none⟩) (by simp) _).setCell (p := ⟨w.heap.size + 1, 1, none⟩) (by simp) _⟩
      · have hs := valV_skip hv he
        have hne : (v.t == at') = false := beq_eq_false_iff_ne.2 he
        obtain ⟨vt, vn, vd⟩ := v
        simp only at *
        have HV := Lib.hid (hs.symm.trans hV.out)
        clear hs hv he hEw hV
        go_wp2
        go_roundw
        case rel => exact ⟨k + 1, by omega, by go_num, HV, hS⟩
        case measure => simp [intOf]; omega
    · have i1 : ¬ (k : Int) < n := by omega
      have hnil : vs.drop k = [] := List.drop_of_length_le (by rw [HN.out]; omega)
      have HR : Hid (R = (0, 0, false)) := Lib.hid (by rw [← hV.out, hnil]; rfl)
      clear hnil hV
      go_wp2
      exact bodyPost_ret (v := .tuple #[.agg #[.int .i64 0, .int .i64 0], .bool false]) (by simp [results, Try.results16, go_sem, b0, b1]) rfl ⟨by rw [HR.out], (hBw.out.setCell (p := ⟨w.heap.size + 1, 0, none⟩) (by simp) _).setCell (p := ⟨w.heap.size + 1, 1, none⟩) (by simp) _⟩

end Go.Proofs.Ytejllfpcffeogaa
