/- The law RatioOps. -/
import Derived.Test.YtloddocibfbkpaaField
import Derived.Test.YtloddocibfbkpaaRef03i
import Derived.Test.YtloddocibfbkpaaRat8
import Derived.Test.YtloddocibfbkpaaLaw03a
import Derived.Test.YtloddocibfbkpaaLaw03b
namespace Go.Proofs.Ytloddocibfbkpaa
open Go.RowKit Go.Shelf

/-- A row of ratios in a block. -/
def TabAt (G n : Nat) (P Q : Nat → Int) (w : World) : Prop := G < w.heap.size ∧ ∀ k, k < n → w.cell? ⟨G, k * 2, none⟩ = some (.int .i64 (P k)) ∧ w.cell? ⟨G, k * 2 + 1, none⟩ = some (.int .i64 (Q k))

theorem TabAt.keep {W w1 : World} {G n : Nat} {P Q : Nat → Int} (h : TabAt G n P Q W) (hb : Below W.heap.size W w1) : TabAt G n P Q w1 :=
  ⟨Nat.lt_of_lt_of_le h.1 hb.size, fun k hk => ⟨(hb.cell (p := ⟨G, k * 2, none⟩) h.1).trans (h.2 k hk).1, (hb.cell (p := ⟨G, k * 2 + 1, none⟩) h.1).trans (h.2 k hk).2⟩⟩

theorem TabAt.new (w : World) (n : Nat) (P Q : Nat → Int) (cs : Array Value) (t : TypeId) (hc : ∀ k, k < n → cs[k * 2]? = some (.int .i64 (P k)) ∧ cs[k * 2 + 1]? = some (.int .i64 (Q k))) : TabAt w.heap.size n P Q (w.alloc (.cells cs t)) := by
  refine ⟨by simp, fun k hk => ?_⟩
  have h := hc k hk
  constructor
  · simp only [World.cell?, heap_new]; exact h.1
  · simp only [World.cell?, heap_new]; exact h.2

/-- The six ratios. -/
def opsP (a1 b1 n : Int) (k : Nat) : Int := match k with | 0 => a1 | 1 => b1 | 2 => n | 3 => 0 | 4 => 1099511627776 | _ => -1
def opsQ (a2 b2 d : Int) (k : Nat) : Int := match k with | 0 => a2 | 1 => b2 | 2 => d | 3 => 1 | 4 => 1 | _ => 1048576

theorem ops_tab (w : World) (a1 a2 b1 b2 n d : Int) (t : TypeId) : TabAt w.heap.size 6 (opsP a1 b1 n) (opsQ a2 b2 d) (w.alloc (.cells #[.int .i64 a1, .int .i64 a2, .int .i64 b1, .int .i64 b2, .int .i64 n, .int .i64 d, .int .i64 0, .int .i64 1, .int .i64 1099511627776, .int .i64 1, .int .i64 (-1), .int .i64 1048576] t)) := by
  refine TabAt.new _ _ _ _ _ _ fun k hk => ?_
  match k with
  | 0 => exact ⟨rfl, rfl⟩
  | 1 => exact ⟨rfl, rfl⟩
  | 2 => exact ⟨rfl, rfl⟩
  | 3 => exact ⟨rfl, rfl⟩
  | 4 => exact ⟨rfl, rfl⟩
  | 5 => exact ⟨rfl, rfl⟩
  | k + 6 => omega

theorem ops_i64 {a1 b1 n : Int} (h1 : I64 a1) (h2 : I64 b1) (h3 : I64 n) (k : Nat) : I64 (opsP a1 b1 n k) := by
  unfold opsP
  split <;> first | assumption | exact ⟨by decide, by decide⟩

theorem ops_i64' {a2 b2 d : Int} (h1 : I64 a2) (h2 : I64 b2) (h3 : I64 d) (k : Nat) : I64 (opsQ a2 b2 d k) := by
  unfold opsQ
  split <;> first | assumption | exact ⟨by decide, by decide⟩

theorem undrew {W w' : World} (h : Below W.drew.heap.size W.drew w') : Below W.heap.size W w' := ((Below.refl _ _).drew).trans h

set_option maxHeartbeats 20000000 in
set_option maxRecDepth 100000 in
theorem law_ops (a0 a1 a2 a3 a4 a5 : Int) (w : World) (w0 : (Lit.int .i64 a0).wf = true) (w1 : (Lit.int .i64 a1).wf = true) (w2 : (Lit.int .i64 a2).wf = true) (w3 : (Lit.int .i64 a3).wf = true) (w4 : (Lit.int .i64 a4).wf = true) (w5 : (Lit.int .i64 a5).wf = true) (KL : Lives) :
    Calls Try.prog 4 #[.int .i64 a0, .int .i64 a1, .int .i64 a2, .int .i64 a3, .int .i64 a4, .int .i64 a5] w fun e w' => e = .returned (.bool true) ∧ Below w.heap.size w w' := by
  have KL' := Lib.hid KL
  unfold Lives at KL'
  have KR0 := Lib.hid (fun w => ratio_any a0 a1 w w0 w1)
  have KR1 := Lib.hid (fun w => ratio_any a2 a3 w w2 w3)
  have hn := Lib.hid (show I64 a4 from i64_of_wf w4)
  have hd := Lib.hid (show I64 a5 from i64_of_wf w5)
  clear KL w0 w1 w2 w3 w4 w5
  go_enter Try.func4, Try.ntmps4
  go_wp2_with fail
  refine (KR0.out _).mono ?_
  rintro e W1 ⟨a1', a2', hA, rfl, hB1⟩
  unfold rv
  go_wp2_with fail
  refine (KR1.out _).mono ?_
  rintro e W2 ⟨b1', b2', hBB, rfl, hB2⟩
  unfold rv
  have X_a := Lib.hid (BoxAt.new hB2)
  have H2 := Lib.hid ((hB1.alloc hB1.size _).trans (hB2.mono (Nat.le_trans hB1.size (by simp))))
  clear hB1 hB2
  have hP := Lib.hid (ops_i64 (ok_i64 hA).1 (ok_i64 hBB).1 hn.out)
  have hQ := Lib.hid (ops_i64' (ok_i64 hA).2 (ok_i64 hBB).2 hd.out)
  clear hA hBB
  obtain ⟨xa0, xa1, -, -, xa2⟩ := X_a.out
  go_wp2
  have T0 := ops_tab (W2.alloc (.cells #[.int .i64 b1', .int .i64 b2'] 26)) a1' a2' b1' b2' a4 a5 26
  rw [size_alloc] at T0
  have HT := Lib.hid T0
  have Hb := Lib.hid ((H2.out.alloc H2.out.size (.cells #[.int .i64 b1', .int .i64 b2'] 26)).alloc (Nat.le_trans H2.out.size (by simp)) (.cells #[.int .i64 a1', .int .i64 a2', .int .i64 b1', .int .i64 b2', .int .i64 a4, .int .i64 a5, .int .i64 0, .int .i64 1, .int .i64 1099511627776, .int .i64 1, .int .i64 (-1), .int .i64 1048576] 26))
  clear T0 X_a xa0 xa1 xa2 H2 KR0 KR1
  generalize opsP a1' b1' a4 = P at *
  generalize opsQ a2' b2' a5 = Q at *
  generalize (W2.alloc (.cells #[.int .i64 b1', .int .i64 b2'] 26)).alloc (.cells #[.int .i64 a1', .int .i64 a2', .int .i64 b1', .int .i64 b2', .int .i64 a4, .int .i64 a5, .int .i64 0, .int .i64 1, .int .i64 1099511627776, .int .i64 1, .int .i64 (-1), .int .i64 1048576] 26) = wb at *
  generalize W2.heap.size + 1 = G at *
  go_loopw [16] (fun x wr => ∃ k : Nat, k ≤ 6 ∧ x = .int .i64 k ∧ Hid (Since wb wr)) (fun x _ => 6 - (intOf x).toNat)
  case atStart => exact ⟨0, by omega, rfl, Below.refl _ _⟩
  case round =>
    obtain ⟨k, hk, rfl, hS⟩ := hrel
    rename World => wo
    by_cases hlt : k < 6
    · have hki : (k : Int) < 6 := by omega
      go_wp2
      go_loopw [17] (fun x wr => ∃ m : Nat, m ≤ 6 ∧ x = .int .i64 m ∧ Hid (Since wb wr)) (fun x _ => 6 - (intOf x).toNat)
      case atStart => exact ⟨0, by omega, rfl, hS.out⟩
      case round =>
        clear hS
        obtain ⟨m, hm, rfl, hS⟩ := hrel
        by_cases hlt2 : m < 6
        · have hmi : (m : Int) < 6 := by omega
          have HT2 := Lib.hid (HT.out.keep hS.out)
          obtain ⟨t1, t2⟩ := HT2.out.2 k hlt
          obtain ⟨t3, t4⟩ := HT2.out.2 m hlt2
          have hG := HT2.out.1
          have ia := hP.out k
          have ib := hQ.out k
          have ic := hP.out m
          have id' := hQ.out m
          generalize P k = a at *
          generalize Q k = b at *
          generalize P m = c at *
          generalize Q m = d at *
          have k_cr := fun w => rcmp_any a b c d w ia ib ic id'
          have k_cs := fun w => cmp_any a b c d w
          have k_ar := fun w => radd_any a b c d w ia ib ic id'
          have k_as := fun w => add_any a b c d w
          have k_mr := fun w => rmul_any a b c d w ia ib ic id'
          have k_ms := fun w => mul_any a b c d w
          have k_dr := fun w => rdiv_any a b c d w ia ib ic id'
          have k_ds := fun w => div_any a b c d w
          have k_sr := fun w => rsub_any a b c d w ia ib id'
          have k_bs := fun w => both_any a b c d w
          have hadd : (Qm.bothI a b c d = 0 ∧ addR a b (negI c) d = addR a b (-c) d ∧ I64 (-c) ∧ -1099511627776 ≤ c ∧ c ≤ 1099511627776) ∨ (Qm.bothI a b c d = 1 ∧ addR a b (negI c) d = (0, 0, 1)) := by
            rcases Qm.bothI_two a b c d with e | e
            · obtain ⟨_, o⟩ := Qm.bothI_ok.1 e
              have o3 := o.2.2.1
              have o4 := o.2.2.2.1
              exact .inl ⟨e, by rw [negI_of (by omega) (by omega)], ⟨by omega, by omega⟩, o3, o4⟩
            · refine .inr ⟨e, ?_⟩
              unfold addR
              rw [if_neg]
              intro h
              obtain ⟨o, o'⟩ := Qm.bothI_ok.1 h
              rw [Qm.bothI_ok.2 ⟨o, (negI_ok ic.1 ic.2).1 o'⟩] at e
              exact absurd e (by decide)
          have k_a2 := fun w => add_any a b (-c) d w
          have k_ng := fun (h1 : -1099511627776 ≤ c) (h2 : c ≤ 1099511627776) w => neg_any c d w (by omega) (by omega)
          generalize cmpR a b c d = VC at *
          generalize addR a b c d = VA at *
          generalize mulR a b c d = VM at *
          generalize divR a b c d = VD at *
          generalize addR a b (negI c) d = VS at *
          generalize addR a b (-c) d = VN at *
          generalize Qm.bothI a b c d = VB at *
          have HADD := Lib.hid hadd
          have K_cr := Lib.hid k_cr
          have K_cs := Lib.hid k_cs
          have K_ar := Lib.hid k_ar
          have K_as := Lib.hid k_as
          have K_mr := Lib.hid k_mr
          have K_ms := Lib.hid k_ms
          have K_dr := Lib.hid k_dr
          have K_ds := Lib.hid k_ds
          have K_sr := Lib.hid k_sr
          have K_bs := Lib.hid k_bs
          have K_a2 := Lib.hid k_a2
          have K_ng := Lib.hid k_ng
          clear k_cr k_cs k_ar k_as k_mr k_ms k_dr k_ds k_sr k_bs k_a2 k_ng hadd ia ib ic id'
          unfold rv rve at *
          go_wp2_with fail
          refine (K_cr.out _).mono ?_
          rintro e W1 ⟨rfl, hB⟩
          have hK := ((((Below.refl _ wr).alloc (Nat.le_refl _) (.cells #[.int .i64 a, .int .i64 b] 26)).alloc (by simp) (.cells #[.int .i64 c, .int .i64 d] 26)).trans (hB.mono (by simp; omega)))
          have X_x := Lib.hid (((BoxAt.made wr (.int .i64 a) (.int .i64 b) 26).under (.cells #[.int .i64 c, .int .i64 d] 26)).keep hB)
          have X_y := Lib.hid (BoxAt.new hB)
          rw [size_alloc] at X_y
          have S1 := Lib.hid (Since.step hS.out hK)
          clear hB hK hS t1 t2 t3 t4 hG HT2
          obtain ⟨p_x0, p_x1, p_x3, p_x4, p_x2⟩ := X_x.out
          obtain ⟨p_y0, p_y1, p_y3, p_y4, p_y2⟩ := X_y.out
          go_wp2_with fail
          refine (K_cs.out _).mono ?_
          rintro e W2 ⟨rfl, hB⟩
          clear p_x0 p_x1 p_x2 p_x3 p_x4 p_y0 p_y1 p_y2 p_y3 p_y4
          have hK := hB
          replace X_x := Lib.hid (X_x.out.keep hK)
          replace X_y := Lib.hid (X_y.out.keep hK)
          have S2 := Lib.hid (Since.step S1.out hK)
          clear hB hK S1
          obtain ⟨p_x0, p_x1, p_x3, p_x4, p_x2⟩ := X_x.out
          obtain ⟨p_y0, p_y1, p_y3, p_y4, p_y2⟩ := X_y.out
          go_wp2_with fail
          refine (K_ar.out _).mono ?_
          rintro e W3 ⟨rfl, hB⟩
          clear p_x0 p_x1 p_x2 p_x3 p_x4 p_y0 p_y1 p_y2 p_y3 p_y4
          have hK := hB
          replace X_x := Lib.hid (X_x.out.keep hK)
          replace X_y := Lib.hid (X_y.out.keep hK)
          have S3 := Lib.hid (Since.step S2.out hK)
          clear hB hK S2
          obtain ⟨p_x0, p_x1, p_x3, p_x4, p_x2⟩ := X_x.out
          obtain ⟨p_y0, p_y1, p_y3, p_y4, p_y2⟩ := X_y.out
          go_wp2_with fail
          refine (K_as.out _).mono ?_
          rintro e W4 ⟨rfl, hB⟩
          clear p_x0 p_x1 p_x2 p_x3 p_x4 p_y0 p_y1 p_y2 p_y3 p_y4
          have hK := (((Below.refl _ W3).alloc (Nat.le_refl _) _).trans (hB.mono (by simp)))
          have X_s := Lib.hid (BoxAt.new hB)
          replace X_x := Lib.hid (X_x.out.keep hK)
          replace X_y := Lib.hid (X_y.out.keep hK)
          have S4 := Lib.hid (Since.step S3.out hK)
          clear hB hK S3
          obtain ⟨p_x0, p_x1, p_x3, p_x4, p_x2⟩ := X_x.out
          obtain ⟨p_y0, p_y1, p_y3, p_y4, p_y2⟩ := X_y.out
          go_wp2_with fail
          have ns := Below.size S4.out
          refine (K_mr.out _).mono ?_
          rintro e W5 ⟨rfl, hB⟩
          clear p_x0 p_x1 p_x2 p_x3 p_x4 p_y0 p_y1 p_y2 p_y3 p_y4
          have hK := (((Below.refl _ W4).alloc (Nat.le_refl _) _).trans (hB.mono (by simp)))
          have X_t := Lib.hid (BoxAt.new hB)
          replace X_x := Lib.hid (X_x.out.keep hK)
          replace X_y := Lib.hid (X_y.out.keep hK)
          replace X_s := Lib.hid (X_s.out.keep hK)
          have S5 := Lib.hid (Since.step S4.out hK)
          clear hB hK S4
          obtain ⟨p_x0, p_x1, p_x3, p_x4, p_x2⟩ := X_x.out
          obtain ⟨p_y0, p_y1, p_y3, p_y4, p_y2⟩ := X_y.out
          go_wp2_with fail
          refine (K_ms.out _).mono ?_
          rintro e W6 ⟨rfl, hB⟩
          clear p_x0 p_x1 p_x2 p_x3 p_x4 p_y0 p_y1 p_y2 p_y3 p_y4
          have hK := (((Below.refl _ W5).alloc (Nat.le_refl _) _).trans (hB.mono (by simp)))
          have X_u := Lib.hid (BoxAt.new hB)
          replace X_x := Lib.hid (X_x.out.keep hK)
          replace X_y := Lib.hid (X_y.out.keep hK)
          replace X_s := Lib.hid (X_s.out.keep hK)
          replace X_t := Lib.hid (X_t.out.keep hK)
          have S6 := Lib.hid (Since.step S5.out hK)
          clear hB hK S5
          obtain ⟨p_x0, p_x1, p_x3, p_x4, p_x2⟩ := X_x.out
          obtain ⟨p_y0, p_y1, p_y3, p_y4, p_y2⟩ := X_y.out
          obtain ⟨p_s0, p_s1, p_s3, p_s4, p_s2⟩ := X_s.out
          obtain ⟨p_t0, p_t1, p_t3, p_t4, p_t2⟩ := X_t.out
          obtain ⟨p_u0, p_u1, p_u3, p_u4, p_u2⟩ := X_u.out
          go_wp2_with fail
          refine (K_dr.out _).mono ?_
          rintro e W7 ⟨rfl, hB⟩
          clear p_x0 p_x1 p_x2 p_x3 p_x4 p_y0 p_y1 p_y2 p_y3 p_y4 p_s0 p_s1 p_s2 p_s3 p_s4 p_t0 p_t1 p_t2 p_t3 p_t4 p_u0 p_u1 p_u2 p_u3 p_u4
          have hK := (((Below.refl _ W6).alloc (Nat.le_refl _) _).trans (hB.mono (by simp)))
          have X_v := Lib.hid (BoxAt.new hB)
          replace X_x := Lib.hid (X_x.out.keep hK)
          replace X_y := Lib.hid (X_y.out.keep hK)
          replace X_s := Lib.hid (X_s.out.keep hK)
          replace X_t := Lib.hid (X_t.out.keep hK)
          replace X_u := Lib.hid (X_u.out.keep hK)
          have S7 := Lib.hid (Since.step S6.out hK)
          clear hB hK S6
          clear X_s X_u X_v
          obtain ⟨p_x0, p_x1, p_x3, p_x4, p_x2⟩ := X_x.out
          obtain ⟨p_y0, p_y1, p_y3, p_y4, p_y2⟩ := X_y.out
          go_wp2_with fail
          refine (K_ds.out _).mono ?_
          rintro e W8 ⟨rfl, hB⟩
          clear p_x0 p_x1 p_x2 p_x3 p_x4 p_y0 p_y1 p_y2 p_y3 p_y4
          have hK := (((Below.refl _ W7).alloc (Nat.le_refl _) _).trans (hB.mono (by simp)))
          have X_w := Lib.hid (BoxAt.new hB)
          replace X_x := Lib.hid (X_x.out.keep hK)
          replace X_y := Lib.hid (X_y.out.keep hK)
          replace X_t := Lib.hid (X_t.out.keep hK)
          have S8 := Lib.hid (Since.step S7.out hK)
          clear hB hK S7
          obtain ⟨p_x0, p_x1, p_x3, p_x4, p_x2⟩ := X_x.out
          obtain ⟨p_y0, p_y1, p_y3, p_y4, p_y2⟩ := X_y.out
          obtain ⟨p_w0, p_w1, p_w3, p_w4, p_w2⟩ := X_w.out
          go_wp2_with fail
          refine (K_sr.out _).mono ?_
          rintro e W9 ⟨rfl, hB⟩
          clear p_x0 p_x1 p_x2 p_x3 p_x4 p_y0 p_y1 p_y2 p_y3 p_y4 p_w0 p_w1 p_w2 p_w3 p_w4
          have hK := (((Below.refl _ W8).alloc (Nat.le_refl _) _).trans (hB.mono (by simp)))
          have X_z := Lib.hid (BoxAt.new hB)
          replace X_x := Lib.hid (X_x.out.keep hK)
          replace X_y := Lib.hid (X_y.out.keep hK)
          replace X_t := Lib.hid (X_t.out.keep hK)
          replace X_w := Lib.hid (X_w.out.keep hK)
          have S9 := Lib.hid (Since.step S8.out hK)
          clear hB hK S8
          clear X_w X_z
          obtain ⟨p_x0, p_x1, p_x3, p_x4, p_x2⟩ := X_x.out
          obtain ⟨p_y0, p_y1, p_y3, p_y4, p_y2⟩ := X_y.out
          go_wp2_with fail
          have nz := X_t.out.2.2.2.2
          refine (K_bs.out _).mono ?_
          rintro e W10 ⟨rfl, hB⟩
          clear p_x0 p_x1 p_x2 p_x3 p_x4 p_y0 p_y1 p_y2 p_y3 p_y4
          have hK := (((Below.refl _ W9).alloc (Nat.le_refl _) _).trans (hB.mono (by simp)))
          have X_l := Lib.hid (BoxAt.new hB)
          replace X_x := Lib.hid (X_x.out.keep hK)
          replace X_y := Lib.hid (X_y.out.keep hK)
          replace X_t := Lib.hid (X_t.out.keep hK)
          have S10 := Lib.hid (Since.step S9.out hK)
          clear hB hK S9
          have nz1 : ¬ W4.heap.size = W9.heap.size := by omega
          have nz2 : ¬ W9.heap.size = W4.heap.size := by omega
          rcases HADD.out with ⟨rfl, rfl, _, hc1, hc2⟩ | ⟨rfl, rfl⟩
          · obtain ⟨p_x0, p_x1, p_x3, p_x4, p_x2⟩ := X_x.out
            obtain ⟨p_y0, p_y1, p_y3, p_y4, p_y2⟩ := X_y.out
            obtain ⟨p_t0, p_t1, p_t3, p_t4, p_t2⟩ := X_t.out
            obtain ⟨p_l0, p_l1, p_l3, p_l4, p_l2⟩ := X_l.out
            go_wp2
            go_region_with (first
              | (go_at_call 30; refine (K_ng.out hc1 hc2 _).mono ?_; rintro e w' ⟨rfl, hr⟩; (first | (have hK := undrew hr) | (have hK := hr)); clear hr; replace X_x := Lib.hid (X_x.out.keep hK); replace X_y := Lib.hid (X_y.out.keep hK); replace X_t := Lib.hid (X_t.out.keep hK); replace X_l := Lib.hid (X_l.out.keep hK); have S11 := Lib.hid (Since.step S10.out hK); clear S10; have S10 := S11; clear S11; clear hK; obtain ⟨p_x0, p_x1, p_x3, p_x4, p_x2⟩ := X_x.out; obtain ⟨p_y0, p_y1, p_y3, p_y4, p_y2⟩ := X_y.out; obtain ⟨p_t0, p_t1, p_t3, p_t4, p_t2⟩ := X_t.out; obtain ⟨p_l0, p_l1, p_l3, p_l4, p_l2⟩ := X_l.out)
              | (go_at_call 23; refine (K_a2.out _).mono ?_; rintro e w' ⟨rfl, hr⟩; (first | (have hK := undrew hr) | (have hK := hr)); clear hr; replace X_x := Lib.hid (X_x.out.keep hK); replace X_y := Lib.hid (X_y.out.keep hK); replace X_t := Lib.hid (X_t.out.keep hK); replace X_l := Lib.hid (X_l.out.keep hK); have S11 := Lib.hid (Since.step S10.out hK); clear S10; have S10 := S11; clear S11; clear hK; obtain ⟨p_x0, p_x1, p_x3, p_x4, p_x2⟩ := X_x.out; obtain ⟨p_y0, p_y1, p_y3, p_y4, p_y2⟩ := X_y.out; obtain ⟨p_t0, p_t1, p_t3, p_t4, p_t2⟩ := X_t.out; obtain ⟨p_l0, p_l1, p_l3, p_l4, p_l2⟩ := X_l.out))
            all_goals go_wp2
            all_goals
              go_roundw
              case rel => exact ⟨m + 1, by omega, by go_num, Lib.hid ((Below.setCell (Below.setCell S10.out (p := ⟨W4.heap.size, 0, none⟩) ns _) (p := ⟨W4.heap.size, 1, none⟩) ns _))⟩
              case measure => simp [intOf]; omega
          · obtain ⟨p_x0, p_x1, p_x3, p_x4, p_x2⟩ := X_x.out
            obtain ⟨p_y0, p_y1, p_y3, p_y4, p_y2⟩ := X_y.out
            obtain ⟨p_t0, p_t1, p_t3, p_t4, p_t2⟩ := X_t.out
            obtain ⟨p_l0, p_l1, p_l3, p_l4, p_l2⟩ := X_l.out
            go_wp2
            go_roundw
            case rel => exact ⟨m + 1, by omega, by go_num, Lib.hid ((Below.setCell (Below.setCell S10.out (p := ⟨W4.heap.size, 0, none⟩) ns _) (p := ⟨W4.heap.size, 1, none⟩) ns _))⟩
            case measure => simp [intOf]; omega
        · have hmi : 6 ≤ (m : Int) := by omega
          go_wp2
          go_roundw
          case rel => exact ⟨k + 1, by omega, by go_num, hS.out⟩
          case measure => simp [intOf]; omega
    · have hki : 6 ≤ (k : Int) := by omega
      have H5 := Lib.hid (Hb.out.trans (Below.mono hS.out Hb.out.size))
      go_wp2_with fail
      refine (KL'.out _).mono ?_
      rintro e WZ ⟨rfl, hB⟩
      have HZZ := Lib.hid (H5.out.trans (hB.mono H5.out.size))
      clear hB
      go_wp2
      go_ret
      exact ⟨rfl, HZZ.out⟩

end Go.Proofs.Ytloddocibfbkpaa
