/- Contracts of the reference of span: Interval. -/
import Derived.Test.YtimbgjpjgbjnkaaGa
import Derived.Test.YtimbgjpjgbjnkaaSp7
import Derived.Test.YtimbgjpjgbjnkaaRef03
namespace Go.Proofs.Ytimbgjpjgbjnkaa
open Go.RowKit Go.Shelf

theorem small_of {v d : Int} (h1 : 1 ≤ d) (h2 : d ≤ 32768) (h3 : -100 ≤ v) (h4 : v ≤ 100) : ∃ a b, Qm.ofR v d = (a, b, 0) ∧ SmallR a b := by
  have hg := Qm.g_pos (a := v) (b := d) (by omega)
  have b1 := ediv_le (M := 100) hg h3 h4
  have b2 := ediv_le (a := d) (M := 32768) hg (by omega) h2
  rcases Qm.ofR_out (n := v) (d := d) (by omega) with e | ⟨a, b, e, o, _⟩
  · rw [Qm.ofR_pos (by omega)] at e
    split at e
    · omega
    · simp at e
  · refine ⟨a, b, e, o, ?_⟩
    rw [Qm.ofR_pos (by omega)] at e
    split at e
    · simp at e
    · simp at e
      omega

/-- What Interval leaves. -/
def IvOut (w : World) (e : Ending) (w' : World) : Prop := ∃ x : Iv, x.good = true ∧ e = .returned x.v ∧ Below w.heap.size w w'

/-- A number of the list of denominators. -/
def CutD (W : World) (v : Value) (wx : World) : Prop := ∃ d : Int, v = .int .i64 d ∧ 1 ≤ d ∧ d ≤ 32768 ∧ Hid (Since W wx)

def CutHi (W : World) (v : Value) (wx : World) : Prop := ∃ N c d, v = .pointer (some ⟨N, 0, none⟩) ∧ W.heap.size ≤ N ∧ Hid (BoxL N [.int .i64 c, .int .i64 d] wx) ∧ Hid (Since W wx)

def CutX (W : World) (a b c d : Int) (v : Value) (wx : World) : Prop := ∃ N p q r s, v = .pointer (some ⟨N, 0, none⟩) ∧ W.heap.size ≤ N ∧ Hid (BoxL N [.int .i64 a, .int .i64 b, .int .i64 c, .int .i64 d, .bool p, .bool q, .bool r, .bool s] wx) ∧ Hid (Since W wx)

set_option maxHeartbeats 8000000 in
set_option maxRecDepth 100000 in
theorem interval04_any (n m : Int) (w : World) (hn : (Lit.int .i64 n).wf = true) (hm : (Lit.int .i64 m).wf = true) :
    Calls Try.prog 9 #[.int .i64 n, .int .i64 m] w (IvOut w) := by
  have k1 := fun w => around_any n 1048576 w (by decide) (by decide) hn
  have k2 := fun w => around_any m 1048576 w (by decide) (by decide) hm
  have hk := aroundI_range n 1048576 (by decide)
  have hj := aroundI_range m 1048576 (by decide)
  generalize aroundI n 1048576 = k at *
  generalize aroundI m 1048576 = j at *
  obtain ⟨hk0, hk1⟩ := hk
  obtain ⟨hj0, hj1⟩ := hj
  have K1 := Lib.hid k1
  have K2 := Lib.hid k2
  have XR := Lib.hid (cell_new8 w (.int .i64 0) (.int .i64 0) (.int .i64 0) (.int .i64 0) (.bool false) (.bool false) (.bool false) (.bool false) 27)
  have HB0 := Lib.hid ((Below.refl w.heap.size w).alloc (Nat.le_refl _) (.cells #[.int .i64 0, .int .i64 0, .int .i64 0, .int .i64 0, .bool false, .bool false, .bool false, .bool false] 27))
  clear k1 k2 hn hm
  go_enter Try.func9, Try.ntmps9
  go_wp2_with fail
  refine (K1.out _).mono ?_
  rintro e w' ⟨rfl, rfl⟩
  go_wp2_with fail
  refine (K2.out _).mono ?_
  rintro e w' ⟨rfl, rfl⟩
  go_upto_region 3 with (fail)
  generalize w.alloc (.cells #[.int .i64 0, .int .i64 0, .int .i64 0, .int .i64 0, .bool false, .bool false, .bool false, .bool false] 27) = W1 at *
  go_cut [7] (fun v wx => CutD W1 v wx)
  case first =>
    have hi : k / 16 % 6 = 0 ∨ k / 16 % 6 = 1 ∨ k / 16 % 6 = 2 ∨ k / 16 % 6 = 3 ∨ k / 16 % 6 = 4 ∨ k / 16 % 6 = 5 := by omega
    rcases hi with h | h | h | h | h | h
    all_goals
      go_wp2_with fail
      go_meet
      exact ⟨_, rfl, by decide, by decide, Lib.hid (Below.alloc (Below.refl _ _) (Nat.le_refl _) _)⟩
  case rest =>
    obtain ⟨dn, rfl, hd1, hd2, hS⟩ := hcut
    have X2 := Lib.hid (XR.out.keep hS.out)
    have H2 := Lib.hid (HB0.out.trans (Below.mono hS.out HB0.out.size))
    clear XR HB0 hS K1 K2
    rename World => W2
    obtain ⟨la, lb, hlo, hsl⟩ := small_of (v := k / 96 % 40 - 20) hd1 hd2 (by omega) (by omega)
    have ko := fun W => of_any (k / 96 % 40 - 20) dn W (by omega) (by omega) (by omega)
    rw [hlo] at ko
    have KO := Lib.hid ko
    have HSL := Lib.hid hsl
    clear ko hlo hsl
    go_wp2_with fail
    refine (KO.out _).mono ?_
    rintro e w3 ⟨rfl, hr⟩
    have H3 := Lib.hid ((H2.out.trans (hr.mono H2.out.size)).alloc (H2.out.trans (hr.mono H2.out.size)).size (.cells #[.int .i64 la, .int .i64 lb] 25))
    have X3 := Lib.hid ((X2.out.keep hr).under (.cells #[.int .i64 la, .int .i64 lb] 25))
    have XL3 := Lib.hid (BoxL.made w3 #[.int .i64 la, .int .i64 lb] 25)
    clear hr X2 H2 KO
    unfold rve
    simp only
    go_upto_region 5 with (fail)
    generalize w3.alloc (.cells #[.int .i64 la, .int .i64 lb] 25) = W4 at *
    generalize w3.heap.size = NL at *
    go_cut [10] (fun v wx => CutHi W4 v wx)
    case first =>
      have hi : j / 9 % 4 = 0 ∨ j / 9 % 4 = 1 ∨ j / 9 % 4 = 2 ∨ j / 9 % 4 = 3 := by omega
      have KH := Lib.hid fun (v d : Int) (h1 : -9223372036854775807 ≤ v ∧ v ≤ 9223372036854775807) (h2 : -9223372036854775807 ≤ d ∧ d ≤ 9223372036854775807) (h3 : d ≠ 0) W => of_any v d W h1 h2 h3
      rcases hi with h | h | h | h
      all_goals
        go_wp2_with fail
        refine (KH.out _ _ (by omega) (by omega) (by omega) _).mono ?_
        rintro e w5 ⟨rfl, hr⟩
        have S5 : Since W4 w5 := Below.trans (Below.alloc (Below.refl _ _) (Nat.le_refl _) _) (hr.mono (by simp))
        have HS5 := Lib.hid S5
        clear hr S5
        generalize Qm.ofR _ _ = R
        obtain ⟨rn, rd, re⟩ := R
        unfold rve
        simp only
        go_wp2_with fail
        go_meet
        exact ⟨_, rn, rd, rfl, Below.size HS5.out, Lib.hid (BoxL.made _ _ _), Lib.hid (Below.alloc HS5.out (Below.size HS5.out) _)⟩
    case rest =>
      obtain ⟨NH, ca, cb, rfl, hNH, hXH, hS⟩ := hcut
      have X5 := Lib.hid (X3.out.keep hS.out)
      have XL5 := Lib.hid (XL3.out.keep hS.out)
      have H5 := Lib.hid (H3.out.trans (Below.mono hS.out H3.out.size))
      clear X3 XL3 H3 hS hNH
      rename World => W5
      obtain ⟨l0, l1, -, -, l2⟩ := XL5.out.open2
      obtain ⟨h0, h1, -, -, h2⟩ := hXH.out.open2
      go_upto_region 6 with (fail)
      go_cut [12] (fun v wx => CutX W5 la lb ca cb v wx)
      case first =>
        go_wp2_with fail
        go_meet
        exact ⟨_, _, _, _, _, rfl, Nat.le_refl _, Lib.hid (BoxL.made _ _ _), Lib.hid (Below.alloc (Below.refl _ _) (Nat.le_refl _) _)⟩
      case rest =>
        obtain ⟨NX, p, q, r, s, rfl, hNX, hXX, hS⟩ := hcut
        have X6 := Lib.hid (X5.out.keep hS.out)
        have XL6 := Lib.hid (XL5.out.keep hS.out)
        have H6 := Lib.hid (H5.out.trans (Below.mono hS.out H5.out.size))
        have hnx : w.heap.size < NX := by have := X5.out.1; omega
        have hnl : NL ≠ NX := by have := XL5.out.1; omega
        clear X5 XL5 H5 hS hNX l0 l1 l2 h0 h1 h2 hXH
        rename World => W6
        have HLL : Hid (Iv.good ⟨la, lb, la, lb, false, false, false, false⟩ = true) := Lib.hid (by
          rw [good_is]
          unfold goodB
          simp [HSL.out])
        cases r <;> cases s
        · have KG := Lib.hid fun W => good_any ⟨la, lb, ca, cb, p, q, false, false⟩ W
          unfold Iv.v at KG
          simp only at KG
          obtain ⟨x0, x1, x2, x3, x4, x5, x6, x7, x8⟩ := hXX.out.open8
          obtain ⟨y0, y1, y2, y3, y4, y5, y6, y7⟩ := hXX.out.open8f
          have X7 : Hid (BoxL NX [.int .i64 la, .int .i64 lb, .int .i64 ca, .int .i64 cb, .bool p, .bool q, .bool false, .bool false] W6) := Lib.hid hXX.out
          have R7 := Lib.hid X6.out
          have L7 := Lib.hid XL6.out
          have H7 := Lib.hid H6.out
          obtain ⟨z0, z1, z2, z3, z4, z5, z6, z7, z8⟩ := X7.out.open8
          cases hG : Iv.good ⟨la, lb, ca, cb, p, q, false, false⟩
          case false =>
            rw [hG] at KG
            have HG : Hid (Iv.good ⟨la, lb, la, lb, false, false, false, false⟩ = true) := HLL
            clear hG
            go_wp2_with fail
            refine (KG.out _).mono ?_
            rintro e w8 ⟨rfl, hr⟩
            have R8 := Lib.hid (R7.out.keep hr)
            have L8 := Lib.hid (L7.out.keep hr)
            have H8 := Lib.hid (H7.out.trans (hr.mono H7.out.size))
            clear hr x0 x1 x2 x3 x4 x5 x6 x7 x8 y0 y1 y2 y3 y4 y5 y6 y7 z0 z1 z2 z3 z4 z5 z6 z7 z8
            obtain ⟨l0, l1, -, -, l2⟩ := L8.out.open2
            obtain ⟨r0, r1, r2, r3, r4, r5, r6, r7, r8⟩ := R8.out.open8
            obtain ⟨q0, q1, q2, q3, q4, q5, q6, q7⟩ := R8.out.open8f
            go_wp2
            with_reducible refine bodyPost_end8 (B := w.heap.size) (w := w) (z0 := .int .i64 0) (z1 := .int .i64 0) (z2 := .int .i64 0) (z3 := .int .i64 0) (z4 := .bool false) (z5 := .bool false) (z6 := .bool false) (z7 := .bool false) ?hX ?hB ?hN ?hd ?hr ?hQ
            case hQ =>
              intro W h
              exact ⟨⟨la, lb, la, lb, false, false, false, false⟩, HG.out, rfl, h⟩
            case hX => exact R8.out
            case hB => exact H8.out
            case hN => exact Nat.le_refl _
            case hd => rfl
            case hr =>
              intro W h
              obtain ⟨o0, o1, o2, o3, o4, o5, o6, o7, o8⟩ := h.open8
              clear h
              simp [results, Try.results9, go_sem, o0, o1, o2, o3, o4, o5, o6, o7]
          case true =>
            rw [hG] at KG
            have HG := Lib.hid hG
            clear hG
            go_wp2_with fail
            refine (KG.out _).mono ?_
            rintro e w8 ⟨rfl, hr⟩
            have R8 := Lib.hid (R7.out.keep hr)
            have X8 := Lib.hid (X7.out.keep hr)
            have H8 := Lib.hid (H7.out.trans (hr.mono H7.out.size))
            clear hr x0 x1 x2 x3 x4 x5 x6 x7 x8 y0 y1 y2 y3 y4 y5 y6 y7 z0 z1 z2 z3 z4 z5 z6 z7 z8
            obtain ⟨z0, z1, z2, z3, z4, z5, z6, z7, z8⟩ := X8.out.open8
            obtain ⟨r0, r1, r2, r3, r4, r5, r6, r7, r8⟩ := R8.out.open8
            obtain ⟨q0, q1, q2, q3, q4, q5, q6, q7⟩ := R8.out.open8f
            go_wp2
            with_reducible refine bodyPost_end8 (B := w.heap.size) (w := w) (z0 := .int .i64 0) (z1 := .int .i64 0) (z2 := .int .i64 0) (z3 := .int .i64 0) (z4 := .bool false) (z5 := .bool false) (z6 := .bool false) (z7 := .bool false) ?hX ?hB ?hN ?hd ?hr ?hQ
            case hQ =>
              intro W h
              exact ⟨⟨la, lb, ca, cb, p, q, false, false⟩, HG.out, rfl, h⟩
            case hX => exact R8.out
            case hB => exact H8.out
            case hN => exact Nat.le_refl _
            case hd => rfl
            case hr =>
              intro W h
              obtain ⟨o0, o1, o2, o3, o4, o5, o6, o7, o8⟩ := h.open8
              clear h
              simp [results, Try.results9, go_sem, o0, o1, o2, o3, o4, o5, o6, o7]
        · have KG := Lib.hid fun W => good_any ⟨la, lb, 0, 0, p, false, false, true⟩ W
          unfold Iv.v at KG
          simp only at KG
          obtain ⟨x0, x1, x2, x3, x4, x5, x6, x7, x8⟩ := hXX.out.open8
          obtain ⟨y0, y1, y2, y3, y4, y5, y6, y7⟩ := hXX.out.open8f
          have X7 : Hid (BoxL NX [.int .i64 la, .int .i64 lb, .int .i64 0, .int .i64 0, .bool p, .bool false, .bool false, .bool true] (((W6.setCell ⟨NX, 2, none⟩ (.int .i64 0)).setCell ⟨NX, 3, none⟩ (.int .i64 0)).setCell ⟨NX, 5, none⟩ (.bool false))) := Lib.hid (((hXX.out.set 2 (.int .i64 0) (by simp)).set 3 (.int .i64 0) (by simp)).set 5 (.bool false) (by simp))
          have R7 := Lib.hid (((X6.out.other (N := NX) (k := 2) (v := .int .i64 0) (by omega)).other (N := NX) (k := 3) (v := .int .i64 0) (by omega)).other (N := NX) (k := 5) (v := .bool false) (by omega))
          have L7 := Lib.hid (((XL6.out.other (N := NX) (k := 2) (v := .int .i64 0) hnl).other (N := NX) (k := 3) (v := .int .i64 0) hnl).other (N := NX) (k := 5) (v := .bool false) hnl)
          have H7 := Lib.hid (((H6.out.setCell (p := ⟨NX, 2, none⟩) (by show w.heap.size ≤ NX; omega) (.int .i64 0)).setCell (p := ⟨NX, 3, none⟩) (by show w.heap.size ≤ NX; omega) (.int .i64 0)).setCell (p := ⟨NX, 5, none⟩) (by show w.heap.size ≤ NX; omega) (.bool false))
          obtain ⟨z0, z1, z2, z3, z4, z5, z6, z7, z8⟩ := X7.out.open8
          cases hG : Iv.good ⟨la, lb, 0, 0, p, false, false, true⟩
          case false =>
            rw [hG] at KG
            have HG : Hid (Iv.good ⟨la, lb, la, lb, false, false, false, false⟩ = true) := HLL
            clear hG
            go_wp2_with fail
            refine (KG.out _).mono ?_
            rintro e w8 ⟨rfl, hr⟩
            have R8 := Lib.hid (R7.out.keep hr)
            have L8 := Lib.hid (L7.out.keep hr)
            have H8 := Lib.hid (H7.out.trans (hr.mono H7.out.size))
            clear hr x0 x1 x2 x3 x4 x5 x6 x7 x8 y0 y1 y2 y3 y4 y5 y6 y7 z0 z1 z2 z3 z4 z5 z6 z7 z8
            obtain ⟨l0, l1, -, -, l2⟩ := L8.out.open2
            obtain ⟨r0, r1, r2, r3, r4, r5, r6, r7, r8⟩ := R8.out.open8
            obtain ⟨q0, q1, q2, q3, q4, q5, q6, q7⟩ := R8.out.open8f
            go_wp2
            with_reducible refine bodyPost_end8 (B := w.heap.size) (w := w) (z0 := .int .i64 0) (z1 := .int .i64 0) (z2 := .int .i64 0) (z3 := .int .i64 0) (z4 := .bool false) (z5 := .bool false) (z6 := .bool false) (z7 := .bool false) ?hX ?hB ?hN ?hd ?hr ?hQ
            case hQ =>
              intro W h
              exact ⟨⟨la, lb, la, lb, false, false, false, false⟩, HG.out, rfl, h⟩
            case hX => exact R8.out
            case hB => exact H8.out
            case hN => exact Nat.le_refl _
            case hd => rfl
            case hr =>
              intro W h
              obtain ⟨o0, o1, o2, o3, o4, o5, o6, o7, o8⟩ := h.open8
              clear h
              simp [results, Try.results9, go_sem, o0, o1, o2, o3, o4, o5, o6, o7]
          case true =>
            rw [hG] at KG
            have HG := Lib.hid hG
            clear hG
            go_wp2_with fail
            refine (KG.out _).mono ?_
            rintro e w8 ⟨rfl, hr⟩
            have R8 := Lib.hid (R7.out.keep hr)
            have X8 := Lib.hid (X7.out.keep hr)
            have H8 := Lib.hid (H7.out.trans (hr.mono H7.out.size))
            clear hr x0 x1 x2 x3 x4 x5 x6 x7 x8 y0 y1 y2 y3 y4 y5 y6 y7 z0 z1 z2 z3 z4 z5 z6 z7 z8
            obtain ⟨z0, z1, z2, z3, z4, z5, z6, z7, z8⟩ := X8.out.open8
            obtain ⟨r0, r1, r2, r3, r4, r5, r6, r7, r8⟩ := R8.out.open8
            obtain ⟨q0, q1, q2, q3, q4, q5, q6, q7⟩ := R8.out.open8f
            go_wp2
            with_reducible refine bodyPost_end8 (B := w.heap.size) (w := w) (z0 := .int .i64 0) (z1 := .int .i64 0) (z2 := .int .i64 0) (z3 := .int .i64 0) (z4 := .bool false) (z5 := .bool false) (z6 := .bool false) (z7 := .bool false) ?hX ?hB ?hN ?hd ?hr ?hQ
            case hQ =>
              intro W h
              exact ⟨⟨la, lb, 0, 0, p, false, false, true⟩, HG.out, rfl, h⟩
            case hX => exact R8.out
            case hB => exact H8.out
            case hN => exact Nat.le_refl _
            case hd => rfl
            case hr =>
              intro W h
              obtain ⟨o0, o1, o2, o3, o4, o5, o6, o7, o8⟩ := h.open8
              clear h
              simp [results, Try.results9, go_sem, o0, o1, o2, o3, o4, o5, o6, o7]
        · have KG := Lib.hid fun W => good_any ⟨0, 0, ca, cb, false, q, true, false⟩ W
          unfold Iv.v at KG
          simp only at KG
          obtain ⟨x0, x1, x2, x3, x4, x5, x6, x7, x8⟩ := hXX.out.open8
          obtain ⟨y0, y1, y2, y3, y4, y5, y6, y7⟩ := hXX.out.open8f
          have X7 : Hid (BoxL NX [.int .i64 0, .int .i64 0, .int .i64 ca, .int .i64 cb, .bool false, .bool q, .bool true, .bool false] (((W6.setCell ⟨NX, 0, none⟩ (.int .i64 0)).setCell ⟨NX, 1, none⟩ (.int .i64 0)).setCell ⟨NX, 4, none⟩ (.bool false))) := Lib.hid (((hXX.out.set 0 (.int .i64 0) (by simp)).set 1 (.int .i64 0) (by simp)).set 4 (.bool false) (by simp))
          have R7 := Lib.hid (((X6.out.other (N := NX) (k := 0) (v := .int .i64 0) (by omega)).other (N := NX) (k := 1) (v := .int .i64 0) (by omega)).other (N := NX) (k := 4) (v := .bool false) (by omega))
          have L7 := Lib.hid (((XL6.out.other (N := NX) (k := 0) (v := .int .i64 0) hnl).other (N := NX) (k := 1) (v := .int .i64 0) hnl).other (N := NX) (k := 4) (v := .bool false) hnl)
          have H7 := Lib.hid (((H6.out.setCell (p := ⟨NX, 0, none⟩) (by show w.heap.size ≤ NX; omega) (.int .i64 0)).setCell (p := ⟨NX, 1, none⟩) (by show w.heap.size ≤ NX; omega) (.int .i64 0)).setCell (p := ⟨NX, 4, none⟩) (by show w.heap.size ≤ NX; omega) (.bool false))
          obtain ⟨z0, z1, z2, z3, z4, z5, z6, z7, z8⟩ := X7.out.open8
          cases hG : Iv.good ⟨0, 0, ca, cb, false, q, true, false⟩
          case false =>
            rw [hG] at KG
            have HG : Hid (Iv.good ⟨la, lb, la, lb, false, false, false, false⟩ = true) := HLL
            clear hG
            go_wp2_with fail
            refine (KG.out _).mono ?_
            rintro e w8 ⟨rfl, hr⟩
            have R8 := Lib.hid (R7.out.keep hr)
            have L8 := Lib.hid (L7.out.keep hr)
            have H8 := Lib.hid (H7.out.trans (hr.mono H7.out.size))
            clear hr x0 x1 x2 x3 x4 x5 x6 x7 x8 y0 y1 y2 y3 y4 y5 y6 y7 z0 z1 z2 z3 z4 z5 z6 z7 z8
            obtain ⟨l0, l1, -, -, l2⟩ := L8.out.open2
            obtain ⟨r0, r1, r2, r3, r4, r5, r6, r7, r8⟩ := R8.out.open8
            obtain ⟨q0, q1, q2, q3, q4, q5, q6, q7⟩ := R8.out.open8f
            go_wp2
            with_reducible refine bodyPost_end8 (B := w.heap.size) (w := w) (z0 := .int .i64 0) (z1 := .int .i64 0) (z2 := .int .i64 0) (z3 := .int .i64 0) (z4 := .bool false) (z5 := .bool false) (z6 := .bool false) (z7 := .bool false) ?hX ?hB ?hN ?hd ?hr ?hQ
            case hQ =>
              intro W h
              exact ⟨⟨la, lb, la, lb, false, false, false, false⟩, HG.out, rfl, h⟩
            case hX => exact R8.out
            case hB => exact H8.out
            case hN => exact Nat.le_refl _
            case hd => rfl
            case hr =>
              intro W h
              obtain ⟨o0, o1, o2, o3, o4, o5, o6, o7, o8⟩ := h.open8
              clear h
              simp [results, Try.results9, go_sem, o0, o1, o2, o3, o4, o5, o6, o7]
          case true =>
            rw [hG] at KG
            have HG := Lib.hid hG
            clear hG
            go_wp2_with fail
            refine (KG.out _).mono ?_
            rintro e w8 ⟨rfl, hr⟩
            have R8 := Lib.hid (R7.out.keep hr)
            have X8 := Lib.hid (X7.out.keep hr)
            have H8 := Lib.hid (H7.out.trans (hr.mono H7.out.size))
            clear hr x0 x1 x2 x3 x4 x5 x6 x7 x8 y0 y1 y2 y3 y4 y5 y6 y7 z0 z1 z2 z3 z4 z5 z6 z7 z8
            obtain ⟨z0, z1, z2, z3, z4, z5, z6, z7, z8⟩ := X8.out.open8
            obtain ⟨r0, r1, r2, r3, r4, r5, r6, r7, r8⟩ := R8.out.open8
            obtain ⟨q0, q1, q2, q3, q4, q5, q6, q7⟩ := R8.out.open8f
            go_wp2
            with_reducible refine bodyPost_end8 (B := w.heap.size) (w := w) (z0 := .int .i64 0) (z1 := .int .i64 0) (z2 := .int .i64 0) (z3 := .int .i64 0) (z4 := .bool false) (z5 := .bool false) (z6 := .bool false) (z7 := .bool false) ?hX ?hB ?hN ?hd ?hr ?hQ
            case hQ =>
              intro W h
              exact ⟨⟨0, 0, ca, cb, false, q, true, false⟩, HG.out, rfl, h⟩
            case hX => exact R8.out
            case hB => exact H8.out
            case hN => exact Nat.le_refl _
            case hd => rfl
            case hr =>
              intro W h
              obtain ⟨o0, o1, o2, o3, o4, o5, o6, o7, o8⟩ := h.open8
              clear h
              simp [results, Try.results9, go_sem, o0, o1, o2, o3, o4, o5, o6, o7]
        · have KG := Lib.hid fun W => good_any ⟨0, 0, 0, 0, false, false, true, true⟩ W
          unfold Iv.v at KG
          simp only at KG
          obtain ⟨x0, x1, x2, x3, x4, x5, x6, x7, x8⟩ := hXX.out.open8
          obtain ⟨y0, y1, y2, y3, y4, y5, y6, y7⟩ := hXX.out.open8f
          have X7 : Hid (BoxL NX [.int .i64 0, .int .i64 0, .int .i64 0, .int .i64 0, .bool false, .bool false, .bool true, .bool true] ((((((W6.setCell ⟨NX, 0, none⟩ (.int .i64 0)).setCell ⟨NX, 1, none⟩ (.int .i64 0)).setCell ⟨NX, 4, none⟩ (.bool false)).setCell ⟨NX, 2, none⟩ (.int .i64 0)).setCell ⟨NX, 3, none⟩ (.int .i64 0)).setCell ⟨NX, 5, none⟩ (.bool false))) := Lib.hid ((((((hXX.out.set 0 (.int .i64 0) (by simp)).set 1 (.int .i64 0) (by simp)).set 4 (.bool false) (by simp)).set 2 (.int .i64 0) (by simp)).set 3 (.int .i64 0) (by simp)).set 5 (.bool false) (by simp))
          have R7 := Lib.hid ((((((X6.out.other (N := NX) (k := 0) (v := .int .i64 0) (by omega)).other (N := NX) (k := 1) (v := .int .i64 0) (by omega)).other (N := NX) (k := 4) (v := .bool false) (by omega)).other (N := NX) (k := 2) (v := .int .i64 0) (by omega)).other (N := NX) (k := 3) (v := .int .i64 0) (by omega)).other (N := NX) (k := 5) (v := .bool false) (by omega))
          have L7 := Lib.hid ((((((XL6.out.other (N := NX) (k := 0) (v := .int .i64 0) hnl).other (N := NX) (k := 1) (v := .int .i64 0) hnl).other (N := NX) (k := 4) (v := .bool false) hnl).other (N := NX) (k := 2) (v := .int .i64 0) hnl).other (N := NX) (k := 3) (v := .int .i64 0) hnl).other (N := NX) (k := 5) (v := .bool false) hnl)
          have H7 := Lib.hid ((((((H6.out.setCell (p := ⟨NX, 0, none⟩) (by show w.heap.size ≤ NX; omega) (.int .i64 0)).setCell (p := ⟨NX, 1, none⟩) (by show w.heap.size ≤ NX; omega) (.int .i64 0)).setCell (p := ⟨NX, 4, none⟩) (by show w.heap.size ≤ NX; omega) (.bool false)).setCell (p := ⟨NX, 2, none⟩) (by show w.heap.size ≤ NX; omega) (.int .i64 0)).setCell (p := ⟨NX, 3, none⟩) (by show w.heap.size ≤ NX; omega) (.int .i64 0)).setCell (p := ⟨NX, 5, none⟩) (by show w.heap.size ≤ NX; omega) (.bool false))
          obtain ⟨z0, z1, z2, z3, z4, z5, z6, z7, z8⟩ := X7.out.open8
          cases hG : Iv.good ⟨0, 0, 0, 0, false, false, true, true⟩
          case false =>
            rw [hG] at KG
            have HG : Hid (Iv.good ⟨la, lb, la, lb, false, false, false, false⟩ = true) := HLL
            clear hG
            go_wp2_with fail
            refine (KG.out _).mono ?_
            rintro e w8 ⟨rfl, hr⟩
            have R8 := Lib.hid (R7.out.keep hr)
            have L8 := Lib.hid (L7.out.keep hr)
            have H8 := Lib.hid (H7.out.trans (hr.mono H7.out.size))
            clear hr x0 x1 x2 x3 x4 x5 x6 x7 x8 y0 y1 y2 y3 y4 y5 y6 y7 z0 z1 z2 z3 z4 z5 z6 z7 z8
            obtain ⟨l0, l1, -, -, l2⟩ := L8.out.open2
            obtain ⟨r0, r1, r2, r3, r4, r5, r6, r7, r8⟩ := R8.out.open8
            obtain ⟨q0, q1, q2, q3, q4, q5, q6, q7⟩ := R8.out.open8f
            go_wp2
            with_reducible refine bodyPost_end8 (B := w.heap.size) (w := w) (z0 := .int .i64 0) (z1 := .int .i64 0) (z2 := .int .i64 0) (z3 := .int .i64 0) (z4 := .bool false) (z5 := .bool false) (z6 := .bool false) (z7 := .bool false) ?hX ?hB ?hN ?hd ?hr ?hQ
            case hQ =>
              intro W h
              exact ⟨⟨la, lb, la, lb, false, false, false, false⟩, HG.out, rfl, h⟩
            case hX => exact R8.out
            case hB => exact H8.out
            case hN => exact Nat.le_refl _
            case hd => rfl
            case hr =>
              intro W h
              obtain ⟨o0, o1, o2, o3, o4, o5, o6, o7, o8⟩ := h.open8
              clear h
              simp [results, Try.results9, go_sem, o0, o1, o2, o3, o4, o5, o6, o7]
          case true =>
            rw [hG] at KG
            have HG := Lib.hid hG
            clear hG
            go_wp2_with fail
            refine (KG.out _).mono ?_
            rintro e w8 ⟨rfl, hr⟩
            have R8 := Lib.hid (R7.out.keep hr)
            have X8 := Lib.hid (X7.out.keep hr)
            have H8 := Lib.hid (H7.out.trans (hr.mono H7.out.size))
            clear hr x0 x1 x2 x3 x4 x5 x6 x7 x8 y0 y1 y2 y3 y4 y5 y6 y7 z0 z1 z2 z3 z4 z5 z6 z7 z8
            obtain ⟨z0, z1, z2, z3, z4, z5, z6, z7, z8⟩ := X8.out.open8
            obtain ⟨r0, r1, r2, r3, r4, r5, r6, r7, r8⟩ := R8.out.open8
            obtain ⟨q0, q1, q2, q3, q4, q5, q6, q7⟩ := R8.out.open8f
            go_wp2
            with_reducible refine bodyPost_end8 (B := w.heap.size) (w := w) (z0 := .int .i64 0) (z1 := .int .i64 0) (z2 := .int .i64 0) (z3 := .int .i64 0) (z4 := .bool false) (z5 := .bool false) (z6 := .bool false) (z7 := .bool false) ?hX ?hB ?hN ?hd ?hr ?hQ
            case hQ =>
              intro W h
              exact ⟨⟨0, 0, 0, 0, false, false, true, true⟩, HG.out, rfl, h⟩
            case hX => exact R8.out
            case hB => exact H8.out
            case hN => exact Nat.le_refl _
            case hd => rfl
            case hr =>
              intro W h
              obtain ⟨o0, o1, o2, o3, o4, o5, o6, o7, o8⟩ := h.open8
              clear h
              simp [results, Try.results9, go_sem, o0, o1, o2, o3, o4, o5, o6, o7]

end Go.Proofs.Ytimbgjpjgbjnkaa
