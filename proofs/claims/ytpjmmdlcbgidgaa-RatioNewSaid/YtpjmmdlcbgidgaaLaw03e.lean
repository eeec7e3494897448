/- The law RatioNew. -/
import Derived.Test.YtpjmmdlcbgidgaaLaw03c
import Derived.Deep.DeepCutAuto
namespace Go.Proofs.Ytpjmmdlcbgidgaa
open Go.RowKit Go.Shelf

/-- A row of numbers in a block. -/
def NumAt (G n : Nat) (P : Nat → Int) (w : World) : Prop := G < w.heap.size ∧ ∀ k, k < n → w.cell? ⟨G, k, none⟩ = some (.int .i64 (P k))

theorem NumAt.keep {W w1 : World} {G n : Nat} {P : Nat → Int} (h : NumAt G n P W) (hb : Below W.heap.size W w1) : NumAt G n P w1 :=
  ⟨Nat.lt_of_lt_of_le h.1 hb.size, fun k hk => (hb.cell (p := ⟨G, k, none⟩) h.1).trans (h.2 k hk)⟩

/-- The four pairs. -/
def newP (a v c : Int) (k : Nat) : Int := match k with | 0 => a | 1 => v | 2 => a | _ => c
def newQ (b v d : Int) (k : Nat) : Int := match k with | 0 => b | 1 => v | 2 => 1 | _ => d

theorem new_tab (w : World) (a b v u c d : Int) (t : TypeId) : TabAt w.heap.size 4 (newP a v c) (newQ b u d) (w.alloc (.cells #[.int .i64 a, .int .i64 b, .int .i64 v, .int .i64 u, .int .i64 a, .int .i64 1, .int .i64 c, .int .i64 d] t)) := by
  refine TabAt.new _ _ _ _ _ _ fun k hk => ?_
  match k with
  | 0 => exact ⟨rfl, rfl⟩
  | 1 => exact ⟨rfl, rfl⟩
  | 2 => exact ⟨rfl, rfl⟩
  | 3 => exact ⟨rfl, rfl⟩
  | k + 4 => omega

theorem new_i64 {a v c : Int} (h1 : I64 a) (h2 : I64 v) (h3 : I64 c) (k : Nat) : I64 (newP a v c k) := by
  unfold newP
  split <;> assumption

theorem new_i64' {b v d : Int} (h1 : I64 b) (h2 : I64 v) (h3 : I64 d) (k : Nat) : I64 (newQ b v d k) := by
  unfold newQ
  split <;> first | assumption | exact ⟨by decide, by decide⟩

theorem wrap64_i64 (n : Int) : I64 (wrap64 n) := by unfold I64 wrap64; omega

/-- The three ratios. -/
def allP (a c : Int) (k : Nat) : Int := match k with | 0 => a | 1 => c | _ => 0

theorem all_tab (w : World) (a b c d : Int) (t : TypeId) : TabAt w.heap.size 3 (allP a c) (allP b d) (w.alloc (.cells #[.int .i64 a, .int .i64 b, .int .i64 c, .int .i64 d, .int .i64 0, .int .i64 0] t)) := by
  refine TabAt.new _ _ _ _ _ _ fun k hk => ?_
  match k with
  | 0 => exact ⟨rfl, rfl⟩
  | 1 => exact ⟨rfl, rfl⟩
  | 2 => exact ⟨rfl, rfl⟩
  | k + 3 => omega

theorem all_i64 {a c : Int} (h1 : I64 a) (h2 : I64 c) (k : Nat) : I64 (allP a c k) := by
  unfold allP
  split <;> first | assumption | exact ⟨by decide, by decide⟩

/-- The four numbers. -/
def numP (a b c : Int) (k : Nat) : Int := match k with | 0 => a | 1 => b | 2 => c | _ => -1

theorem num_tab (w : World) (a b c : Int) (t : TypeId) : NumAt w.heap.size 4 (numP a b c) (w.alloc (.cells #[.int .i64 a, .int .i64 b, .int .i64 c, .int .i64 (-1)] t)) := by
  refine ⟨by simp, fun k hk => ?_⟩
  simp only [World.cell?, heap_new]
  match k with
  | 0 => rfl
  | 1 => rfl
  | 2 => rfl
  | 3 => rfl
  | k + 4 => omega

/-- What a call whose first result is a ratio leaves: its box and its error. -/
def CutN (wb : World) (x y k : Int) (s1 s2 : Value) (wx : World) : Prop := ∃ N : Nat, s1 = .pointer (some ⟨N, 0, none⟩) ∧ s2 = .int .i64 k ∧ BoxAt N (.int .i64 x) (.int .i64 y) wx ∧ Since wb wx

theorem CutN.alloc {wb w' : World} {x y k : Int} (t : TypeId) (hB : Since wb w') : CutN wb x y k (.pointer (some ⟨w'.heap.size, 0, none⟩)) (.int .i64 k) (w'.alloc (.cells #[.int .i64 x, .int .i64 y] t)) :=
  ⟨_, rfl, rfl, BoxAt.made .., Since.alloc hB _⟩

theorem CutN.store {wb w' : World} {x y k : Int} {N : Nat} {a b : Value} (hB : Since wb w') (h : BoxAt N a b w') (hN : wb.heap.size ≤ N) : CutN wb x y k (.pointer (some ⟨N, 0, none⟩)) (.int .i64 k) ((w'.setCell ⟨N, 0, none⟩ (.int .i64 x)).setCell ⟨N, 1, none⟩ (.int .i64 y)) := by
  obtain ⟨c0, c1, f0, f1, hz⟩ := h
  have hs : Since wb ((w'.setCell ⟨N, 0, none⟩ (.int .i64 x)).setCell ⟨N, 1, none⟩ (.int .i64 y)) := (Below.setCell (Below.setCell hB (p := ⟨N, 0, none⟩) hN _) (p := ⟨N, 1, none⟩) hN _)
  refine ⟨N, rfl, rfl, ⟨?_, ?_, ?_, ?_, ?_⟩, hs⟩
  · exact (World.cell?_setCell_other _ ⟨N, 1, none⟩ ⟨N, 0, none⟩ _ (by simp)).trans (World.cell?_setCell_same _ _ _ c0)
  · exact World.cell?_setCell_same _ _ _ ((World.cell?_setCell_other _ ⟨N, 0, none⟩ ⟨N, 1, none⟩ _ (by simp)).trans c1)
  · rw [World.frozen?_setCell, World.frozen?_setCell]; exact f0
  · rw [World.frozen?_setCell, World.frozen?_setCell]; exact f1
  · exact Nat.lt_of_lt_of_le hz (((Below.refl N w').setCell (p := ⟨N, 0, none⟩) (Nat.le_refl _) _).setCell (p := ⟨N, 1, none⟩) (Nat.le_refl _) _).size

set_option maxHeartbeats 20000000 in
set_option maxRecDepth 100000 in
theorem law_new (a0 a1 a2 a3 a4 : Int) (w : World) (w0 : (Lit.int .i64 a0).wf = true) (w1 : (Lit.int .i64 a1).wf = true) (w2 : (Lit.int .i64 a2).wf = true) (w3 : (Lit.int .i64 a3).wf = true) (w4 : (Lit.int .i64 a4).wf = true) (KL : Lives) :
    Calls Try.prog 3 #[.int .i64 a0, .int .i64 a1, .int .i64 a2, .int .i64 a3, .int .i64 a4] w fun e w' => e = .returned (.bool true) ∧ Below w.heap.size w w' := by
  have KL' := Lib.hid KL
  unfold Lives at KL'
  have KB0 := Lib.hid (fun w => bound_any a0 99 w (by omega) (by omega) w0)
  have KB1 := Lib.hid (fun w => bound_any a1 99 w (by omega) (by omega) w1)
  have KA0 := Lib.hid (fun w => around_any a4 1099511627777 w (by omega) (by omega) w4)
  have KA1 := Lib.hid (fun w => around_any a4 1000 w (by omega) (by omega) w4)
  have KR := Lib.hid (fun w => ratio_any a2 a3 w w2 w3)
  have hv0 := boundI_range a0 99 (by omega)
  have hv1 := boundI_range a1 99 (by omega)
  have hu0 := aroundI_range a4 1099511627777 (by omega)
  have hu1 := aroundI_range a4 1000 (by omega)
  have hi0 := Lib.hid (show I64 a0 from i64_of_wf w0)
  have hi1 := Lib.hid (show I64 a1 from i64_of_wf w1)
  have hi4 := Lib.hid (show I64 a4 from i64_of_wf w4)
  generalize boundI a0 99 = v0 at *
  generalize boundI a1 99 = v1 at *
  generalize aroundI a4 1099511627777 = u0 at *
  generalize aroundI a4 1000 = u1 at *
  have hP := Lib.hid (new_i64 hi0.out (show I64 v0 from ⟨by omega, by omega⟩) (wrap64_i64 (a0 * 6)))
  have hQ := Lib.hid (new_i64' hi1.out (show I64 v1 from ⟨by omega, by omega⟩) (wrap64_i64 (a1 * 4)))
  clear KL w0 w1 w2 w3 w4 hv0 hv1 hu0 hu1
  go_enter Try.func3, Try.ntmps3
  go_wp2_with fail
  refine (KB0.out _).mono ?_
  rintro e w' ⟨rfl, rfl⟩
  go_wp2_with fail
  refine (KB1.out _).mono ?_
  rintro e w' ⟨rfl, rfl⟩
  go_wp2
  have HT := Lib.hid (new_tab w a0 a1 v0 v1 (wrap64 (a0 * 6)) (wrap64 (a1 * 4)) 22)
  have Hb := Lib.hid ((Below.refl w.heap.size w).alloc (Nat.le_refl _) (.cells #[.int .i64 a0, .int .i64 a1, .int .i64 v0, .int .i64 v1, .int .i64 a0, .int .i64 1, .int .i64 (wrap64 (a0 * 6)), .int .i64 (wrap64 (a1 * 4))] 22))
  generalize newP a0 v0 (wrap64 (a0 * 6)) = P at *
  generalize newQ a1 v1 (wrap64 (a1 * 4)) = Q at *
  have HGT := Lib.hid (fun (k : Nat) (h : k < 4) (W : World) (ht : TabAt w.heap.size 4 P Q W) => And.intro ht.1 (ht.2 k h))
  generalize w.alloc (.cells #[.int .i64 a0, .int .i64 a1, .int .i64 v0, .int .i64 v1, .int .i64 a0, .int .i64 1, .int .i64 (wrap64 (a0 * 6)), .int .i64 (wrap64 (a1 * 4))] 22) = wb at *
  go_loopw [12] (fun x wr => ∃ k : Nat, k ≤ 4 ∧ x = .int .i64 k ∧ Hid (Since wb wr)) (fun x _ => 4 - (intOf x).toNat)
  case atStart => exact ⟨0, by omega, rfl, Below.refl _ _⟩
  case round =>
    obtain ⟨k, hk, rfl, hS⟩ := hrel
    by_cases hlt : k < 4
    · have hki : (k : Int) < 4 := by omega
      have HT2 := Lib.hid (HT.out.keep hS.out)
      obtain ⟨hG, t1, t2⟩ := HGT.out k hlt _ HT2.out
      have ia := hP.out k
      have ib := hQ.out k
      have HGK := Lib.hid (HGT.out k hlt)
      generalize P k = a at *
      generalize Q k = b at *
      have k_r := fun w => rnew_any a b w ia ib
      have k_s := fun w => new_any a b w ia ib
      have k_v := fun w => rvalid_any a b w ia ib
      have k_u := fun w => valid_any a b w
      have hcs := newR_cases a b
      have hval : ∀ x y, Qm.newR a b = (x, y, 0) → Qm.validI x y = 0 ∧ I64 x ∧ I64 y := by
        intro x y h
        have o : Qm.Ok x y := by
          unfold Qm.newR at h
          by_cases h0 : b = 0
          · rw [if_pos h0] at h
            simp at h
          · rw [if_neg h0] at h
            rcases Qm.ofR_out (n := a) h0 with e | ⟨x', y', e, o, _⟩
            · rw [e] at h
              simp at h
            · rw [e] at h
              simp only [Prod.mk.injEq, and_true] at h
              rw [← h.1, ← h.2]
              exact o
        exact ⟨Qm.validI_ok.2 o, (ok_i64 o).1, (ok_i64 o).2⟩
      have hr3 : (Qm.newR a b).2.2 = 0 ∨ (Qm.newR a b).2.2 = 1 ∨ (Qm.newR a b).2.2 = 5 := by
        unfold Qm.newR
        by_cases h0 : b = 0
        · rw [if_pos h0]; exact .inr (.inl rfl)
        · rw [if_neg h0]
          rcases Qm.ofR_out (n := a) h0 with e | ⟨x', y', e, o, _⟩
          · rw [e]; exact .inr (.inr rfl)
          · rw [e]; exact .inl rfl
      clear hcs ia ib
      have HR3 := Lib.hid hr3
      clear hr3
      generalize Qm.newR a b = R at *
      generalize Qm.validI a b = V at *
      obtain ⟨R1, R2, R3⟩ := R
      have K_r := Lib.hid k_r
      have K_s := Lib.hid k_s
      have K_v := Lib.hid k_v
      have K_u := Lib.hid k_u
      have HV := Lib.hid hval
      clear k_r k_s k_v k_u hval
      unfold rv at K_v K_u
      go_upto_region 5 with (fail)
      go_cut [13, 14] (fun s1 s2 wx => CutN wr R1 R2 R3 s1 s2 wx)
      case first =>
        have hSd : Since wr wr.drew := Below.drew (Below.refl _ _)
        go_region_with (go_at_call 9; refine (K_r.out _).mono ?_; rintro e w' ⟨rfl, hr⟩; unfold rve; (first | (have hB := Since.step hSd hr) | (have hB := Since.step (Since.adrew _ _) hr)); (first | (with_reducible (have BX := Lib.hid (BoxAt.newd hr))) | skip); (first | (obtain ⟨b0, b1, b2, b3, b4⟩ := BX.out) | skip); clear hr)
        all_goals (go_wp2_with fail; go_meet; first | exact CutN.alloc _ hB | exact CutN.store hB BX.out (Nat.le_refl _))
      case rest =>
        obtain ⟨N1, rfl, rfl, X1, S1⟩ := hcut
        have HT3 := Lib.hid (HT2.out.keep S1)
        have HS1 := Lib.hid (Since.step hS.out S1)
        have HX1 := Lib.hid X1
        clear t1 t2 hG HT2 hS X1 S1
        obtain ⟨hG, t1, t2⟩ := HGK.out _ HT3.out
        rename World => wd
        go_upto_region 6 with (fail)
        go_cut [15, 16] (fun s1 s2 wx => CutN wd R1 R2 R3 s1 s2 wx)
        case first =>
          have hSd : Since wd wd.drew := Below.drew (Below.refl _ _)
          go_region_with (go_at_call 10; refine (K_s.out _).mono ?_; rintro e w' ⟨rfl, hr⟩; unfold rve; (first | (have hB := Since.step hSd hr) | (have hB := Since.step (Since.adrew _ _) hr)); (first | (with_reducible (have BX := Lib.hid (BoxAt.newd hr))) | skip); (first | (obtain ⟨b0, b1, b2, b3, b4⟩ := BX.out) | skip); clear hr)
          all_goals (go_wp2_with fail; go_meet; first | exact CutN.alloc _ hB | exact CutN.store hB BX.out (Nat.le_refl _))
        case rest =>
          obtain ⟨N2, rfl, rfl, X2, S2⟩ := hcut
          have HT4 := Lib.hid (HT3.out.keep S2)
          have HS2 := Lib.hid (Since.step HS1.out S2)
          have HX2 := Lib.hid X2
          replace HX1 := Lib.hid (HX1.out.keep S2)
          clear t1 t2 hG HT3 HS1 X2 S2
          obtain ⟨hG, t1, t2⟩ := HGK.out _ HT4.out
          obtain ⟨p0, p1, -, -, p2⟩ := HX1.out
          obtain ⟨q0, q1, -, -, q2⟩ := HX2.out
          rename World => we
          go_upto_region 9 with (fail)
          clear q0 q1 q2 HX2
          go_cut [17] (fun s wx => ∃ N : Nat, s = .pointer (some ⟨N, 0, none⟩) ∧ BoxAt N (.int .i64 a) (.int .i64 b) wx ∧ Since we wx)
          case first =>
            go_region_with (fail)
            all_goals (go_wp2_with fail; go_meet; exact ⟨_, rfl, BoxAt.made we (.int .i64 a) (.int .i64 b) 26, Since.adrew _ _⟩)
          case rest =>
            obtain ⟨N3, rfl, X3, S3⟩ := hcut
            have HS3 := Lib.hid (Since.step HS2.out S3)
            have HX3 := Lib.hid X3
            replace HX1 := Lib.hid (HX1.out.keep S3)
            clear t1 t2 hG HT4 HS2 X3 S3 p0 p1 p2
            obtain ⟨p0, p1, -, -, p2⟩ := HX1.out
            obtain ⟨q0, q1, -, -, q2⟩ := HX3.out
            rename World => wf
            go_upto_region 10 with (fail)
            go_cut [111] (fun s wx => s = .bool false ∧ Since wf wx)
            case first =>
              have hSd : Since wf wf.drew := Below.drew (Below.refl _ _)
              rcases HR3.out with hR3 | hR3 | hR3
              · subst hR3
                obtain ⟨hv, i1, i2⟩ := HV.out R1 R2 rfl
                have k_w := fun w => rvalid_any R1 R2 w i1 i2
                rw [hv] at k_w
                have K_w := Lib.hid k_w
                clear hv i1 i2 k_w
                unfold rv at K_w
                go_region_held3 (fun w' => w'.cell? ⟨N3, 0, none⟩ = some (.int .i64 a) ∧ w'.cell? ⟨N3, 1, none⟩ = some (.int .i64 b) ∧ w'.cell? ⟨N1, 0, none⟩ = some (.int .i64 R1) ∧ w'.cell? ⟨N1, 1, none⟩ = some (.int .i64 R2) ∧ Since wf w')
                  (first | exact ⟨q0, q1, p0, p1, hSd⟩ | exact ⟨Since.cell hB q0, Since.cell hB q1, Since.cell hB p0, Since.cell hB p1, hB⟩)
                  ((first
                    | (go_at_call_of 11 (Value.agg #[Value.int .i64 a, Value.int .i64 b]); refine (K_v.out _).mono ?_; rintro e w' ⟨rfl, hr⟩; (first | (have hB := Since.step hSd hr) | (have hB := Since.step hB hr)); clear hr)
                    | (go_at_call 12; refine (K_u.out _).mono ?_; rintro e w' ⟨rfl, hr⟩; (first | (have hB := Since.step hSd hr) | (have hB := Since.step hB hr)); clear hr)
                    | (go_at_call_of 11 (Value.agg #[Value.int .i64 R1, Value.int .i64 R2]); refine (K_w.out _).mono ?_; rintro e w' ⟨rfl, hr⟩; (first | (have hB := Since.step hSd hr) | (have hB := Since.step hB hr)); clear hr)))
                all_goals (go_wp2_with fail; go_meet; exact ⟨rfl, hB⟩)
              · subst hR3
                go_region_with (first
                  | (go_at_call 11; refine (K_v.out _).mono ?_; rintro e w' ⟨rfl, hr⟩; (first | (have hB := Since.step hB hr) | (have hB := Since.step hSd hr)); clear hr; have r0 := Since.cell hB q0; have r1 := Since.cell hB q1; have r2 := Since.cell hB p0; have r3 := Since.cell hB p1)
                  | (go_at_call 12; refine (K_u.out _).mono ?_; rintro e w' ⟨rfl, hr⟩; (first | (have hB := Since.step hB hr) | (have hB := Since.step hSd hr)); clear hr; have r0 := Since.cell hB q0; have r1 := Since.cell hB q1; have r2 := Since.cell hB p0; have r3 := Since.cell hB p1))
                all_goals (go_wp2_with fail; go_meet; exact ⟨rfl, hB⟩)
              · subst hR3
                go_region_with (first
                  | (go_at_call 11; refine (K_v.out _).mono ?_; rintro e w' ⟨rfl, hr⟩; (first | (have hB := Since.step hB hr) | (have hB := Since.step hSd hr)); clear hr; have r0 := Since.cell hB q0; have r1 := Since.cell hB q1; have r2 := Since.cell hB p0; have r3 := Since.cell hB p1)
                  | (go_at_call 12; refine (K_u.out _).mono ?_; rintro e w' ⟨rfl, hr⟩; (first | (have hB := Since.step hB hr) | (have hB := Since.step hSd hr)); clear hr; have r0 := Since.cell hB q0; have r1 := Since.cell hB q1; have r2 := Since.cell hB p0; have r3 := Since.cell hB p1))
                all_goals (go_wp2_with fail; go_meet; exact ⟨rfl, hB⟩)
            case rest =>
              obtain ⟨rfl, S4⟩ := hcut
              have HS4 := Lib.hid (Since.step HS3.out S4)
              clear S4 HS3
              go_wp2
              go_roundw
              case rel => exact ⟨k + 1, by omega, by go_num, HS4⟩
              case measure => simp [intOf]; omega
    · have hki : 4 ≤ (k : Int) := by omega
      have H5 := Lib.hid (Hb.out.trans (Below.mono hS.out Hb.out.size))
      rename World => wo
      go_wp2_with fail
      have i0 := hi0.out
      have i1 := hi1.out
      have i4 := hi4.out
      refine (KR.out _).mono ?_
      rintro e W1 ⟨c, d, hO, rfl, hB1⟩
      have H6 := Lib.hid (H5.out.trans (hB1.mono H5.out.size))
      have hPA := Lib.hid (all_i64 i0 (ok_i64 hO).1)
      have hQA := Lib.hid (all_i64 i1 (ok_i64 hO).2)
      clear hO hB1 H5 hS HT HGT hP hQ KB0 KB1 KR Hb i0 i1 i4 hlt hk hki
      unfold rv
      go_wp2_with fail
      refine (KA0.out _).mono ?_
      rintro e w' ⟨rfl, rfl⟩
      go_wp2_with fail
      refine (KA1.out _).mono ?_
      rintro e w' ⟨rfl, rfl⟩
      go_wp2
      have TA := (all_tab W1 a0 a1 c d 26).keep ((Below.refl _ _).alloc (Nat.le_refl _) (.cells #[.int .i64 a4, .int .i64 u0, .int .i64 u1, .int .i64 (-1)] 3))
      have TN := num_tab (W1.alloc (.cells #[.int .i64 a0, .int .i64 a1, .int .i64 c, .int .i64 d, .int .i64 0, .int .i64 0] 26)) a4 u0 u1 3
      rw [size_alloc] at TN
      have HTA := Lib.hid TA
      have HTN := Lib.hid TN
      have H7 := Lib.hid ((H6.out.alloc H6.out.size (.cells #[.int .i64 a0, .int .i64 a1, .int .i64 c, .int .i64 d, .int .i64 0, .int .i64 0] 26)).alloc (Nat.le_trans H6.out.size (by simp)) (.cells #[.int .i64 a4, .int .i64 u0, .int .i64 u1, .int .i64 (-1)] 3))
      clear TA TN H6 KA0 KA1
      generalize allP a0 c = PA at *
      generalize allP a1 d = QA at *
      generalize numP a4 u0 u1 = PN at *
      generalize (W1.alloc (.cells #[.int .i64 a0, .int .i64 a1, .int .i64 c, .int .i64 d, .int .i64 0, .int .i64 0] 26)).alloc (.cells #[.int .i64 a4, .int .i64 u0, .int .i64 u1, .int .i64 (-1)] 3) = wb2 at *
      generalize W1.heap.size + 1 = G3 at *
      generalize W1.heap.size = G2 at *
      go_loopw [20] (fun x wr => ∃ k : Nat, k ≤ 3 ∧ x = .int .i64 k ∧ Hid (Since wb2 wr)) (fun x _ => 3 - (intOf x).toNat)
      case atStart => exact ⟨0, by omega, rfl, Below.refl _ _⟩
      case round =>
        obtain ⟨k, hk, rfl, hS⟩ := hrel
        by_cases hlt : k < 3
        · have hki : (k : Int) < 3 := by omega
          have HGA := fun (W : World) (h : TabAt G2 3 PA QA W) => And.intro h.1 (h.2 k hlt)
          have ia := Lib.hid (hPA.out k)
          have ib := Lib.hid (hQA.out k)
          generalize PA k = a at *
          generalize QA k = b at *
          replace HGA := Lib.hid HGA
          obtain ⟨hG, t1, t2⟩ := HGA.out wr (HTA.out.keep hS.out)
          have k_f := fun w => rfloor_any a b w ia.out ib.out
          have k_v := fun w => valid_any a b w
          rcases Qm.validI_two a b with e1 | e1
          · obtain ⟨o1, o2, o3, o4, _⟩ := Qm.validI_ok.1 e1
            have k_g := fun w => (floor_any a b w (by omega) (by omega) (by omega) (by omega)).mono fun e w' h => And.intro h.1 h.2.symm
            rw [show floorR a b = (a / b, 0) by unfold floorR; rw [if_pos e1]] at k_f
            rw [e1] at k_v
            have K_f := Lib.hid k_f
            have K_v := Lib.hid k_v
            have K_g := Lib.hid k_g
            clear k_f k_v k_g e1 o1 o2 o3 o4
            unfold rv at K_f K_v
            generalize a / b = q at *
            go_wp2_with fail
            refine (K_f.out _).mono ?_
            rintro e W3 ⟨rfl, hB3⟩
            have HS1 := Lib.hid (Since.step hS.out hB3)
            clear t1 t2 hG hB3 hS
            obtain ⟨hG, t1, t2⟩ := HGA.out W3 (HTA.out.keep HS1.out)
            go_wp2_with fail
            refine (K_v.out _).mono ?_
            rintro e W4 ⟨rfl, hB4⟩
            have HS2 := Lib.hid (Since.step HS1.out hB4)
            clear t1 t2 hG hB4 HS1
            obtain ⟨hG, t1, t2⟩ := HGA.out W4 (HTA.out.keep HS2.out)
            go_wp2
            go_quiet ((go_at_call 16; exact Calls.quiet_of_same (K_g.out _)))
            have HS3 := Lib.hid (below_drewN HS2.out nq)
            have HS3 : Hid (Since wb2 (W4.drewN nq)) := HS3
            clear t1 t2 hG HS2
            go_wp2
            go_loopw [24] (fun x wr => ∃ m : Nat, m ≤ 4 ∧ x = .int .i64 m ∧ Hid (Since wb2 wr)) (fun x _ => 4 - (intOf x).toNat)
            case atStart => exact ⟨0, by omega, rfl, HS3⟩
            case round =>
              clear HS3
              obtain ⟨m, hm, rfl, hS⟩ := hrel
              by_cases hlt2 : m < 4
              · have hmi : (m : Int) < 4 := by omega
                have t3 := (HTN.out.keep hS.out).2 m hlt2
                have hG3 := (HTN.out.keep hS.out).1
                obtain ⟨hG, t1, t2⟩ := HGA.out wr (HTA.out.keep hS.out)
                generalize PN m = z at *
                have k_p := fun w => rpart_any z a b w ia.out ib.out
                have k_q := fun w => part_any z a b w
                generalize partR z a b = X at *
                obtain ⟨X1, X2⟩ := X
                have K_p := Lib.hid k_p
                have K_q := Lib.hid k_q
                clear k_p k_q
                unfold rv at K_p K_q
                simp only at K_p K_q
                have hSd : Since wr wr.drew := Below.drew (Below.refl _ _)
                go_wp2
                go_region_held3 (fun w' => w'.cell? ⟨G2, k * 2, none⟩ = some (.int .i64 a) ∧ w'.cell? ⟨G2, k * 2 + 1, none⟩ = some (.int .i64 b) ∧ w'.cell? ⟨G3, m, none⟩ = some (.int .i64 z) ∧ Since wr w')
                  (first | exact ⟨t1, t2, t3, hSd⟩ | exact ⟨Since.cell hB t1, Since.cell hB t2, Since.cell hB t3, hB⟩)
                  ((go_at_call 17; refine (K_p.out _).mono ?_; rintro e w' ⟨rfl, hr⟩; (first | (have hB := Since.step hSd hr) | (have hB := Since.step hB hr)); clear hr))
                replace t1 := Since.cell hB t1
                replace t2 := Since.cell hB t2
                replace t3 := Since.cell hB t3
                have HS4 := Lib.hid (Since.step hS.out hB)
                have hG' : G2 < w'.heap.size := Nat.lt_of_lt_of_le hG (Below.size hB)
                have hG3' : G3 < w'.heap.size := Nat.lt_of_lt_of_le hG3 (Below.size hB)
                clear hB hSd hS hG hG3
                rename World => wg
                have hSd : Since wg wg.drew := Below.drew (Below.refl _ _)
                go_wp2
                go_region_held3 (fun w' => w'.cell? ⟨G2, k * 2, none⟩ = some (.int .i64 a) ∧ w'.cell? ⟨G2, k * 2 + 1, none⟩ = some (.int .i64 b) ∧ w'.cell? ⟨G3, m, none⟩ = some (.int .i64 z) ∧ Since wg w')
                  (first | exact ⟨t1, t2, t3, hSd⟩ | exact ⟨Since.cell hB t1, Since.cell hB t2, Since.cell hB t3, hB⟩)
                  ((go_at_call 18; refine (K_q.out _).mono ?_; rintro e w' ⟨rfl, hr⟩; (first | (have hB := Since.step hSd hr) | (have hB := Since.step hB hr)); clear hr))
                have HS5 := Lib.hid (Since.step HS4.out hB)
                clear hB hSd HS4 t1 t2 t3
                go_wp2
                go_roundw
                case rel => exact ⟨m + 1, by omega, by go_num, HS5⟩
                case measure => simp [intOf]; omega
              · have hmi : 4 ≤ (m : Int) := by omega
                go_wp2
                go_roundw
                case rel => exact ⟨k + 1, by omega, by go_num, hS⟩
                case measure => simp [intOf]; omega
          · rw [show floorR a b = (0, 1) by unfold floorR; rw [if_neg (by rw [e1]; decide)]] at k_f
            rw [e1] at k_v
            have K_f := Lib.hid k_f
            have K_v := Lib.hid k_v
            clear k_f k_v e1
            unfold rv at K_f K_v
            go_wp2_with fail
            refine (K_f.out _).mono ?_
            rintro e W3 ⟨rfl, hB3⟩
            have HS1 := Lib.hid (Since.step hS.out hB3)
            clear t1 t2 hG hB3 hS
            obtain ⟨hG, t1, t2⟩ := HGA.out W3 (HTA.out.keep HS1.out)
            go_wp2_with fail
            refine (K_v.out _).mono ?_
            rintro e W4 ⟨rfl, hB4⟩
            have HS2 := Lib.hid (Since.step HS1.out hB4)
            clear t1 t2 hG hB4 HS1
            obtain ⟨hG, t1, t2⟩ := HGA.out W4 (HTA.out.keep HS2.out)
            go_wp2
            go_quiet (fail)
            have HS3 := Lib.hid (below_drewN HS2.out nq)
            have HS3 : Hid (Since wb2 (W4.drewN nq)) := HS3
            clear t1 t2 hG HS2
            go_wp2
            go_loopw [24] (fun x wr => ∃ m : Nat, m ≤ 4 ∧ x = .int .i64 m ∧ Hid (Since wb2 wr)) (fun x _ => 4 - (intOf x).toNat)
            case atStart => exact ⟨0, by omega, rfl, HS3⟩
            case round =>
              clear HS3
              obtain ⟨m, hm, rfl, hS⟩ := hrel
              by_cases hlt2 : m < 4
              · have hmi : (m : Int) < 4 := by omega
                have t3 := (HTN.out.keep hS.out).2 m hlt2
                have hG3 := (HTN.out.keep hS.out).1
                obtain ⟨hG, t1, t2⟩ := HGA.out wr (HTA.out.keep hS.out)
                generalize PN m = z at *
                have k_p := fun w => rpart_any z a b w ia.out ib.out
                have k_q := fun w => part_any z a b w
                generalize partR z a b = X at *
                obtain ⟨X1, X2⟩ := X
                have K_p := Lib.hid k_p
                have K_q := Lib.hid k_q
                clear k_p k_q
                unfold rv at K_p K_q
                simp only at K_p K_q
                have hSd : Since wr wr.drew := Below.drew (Below.refl _ _)
                go_wp2
                go_region_held3 (fun w' => w'.cell? ⟨G2, k * 2, none⟩ = some (.int .i64 a) ∧ w'.cell? ⟨G2, k * 2 + 1, none⟩ = some (.int .i64 b) ∧ w'.cell? ⟨G3, m, none⟩ = some (.int .i64 z) ∧ Since wr w')
                  (first | exact ⟨t1, t2, t3, hSd⟩ | exact ⟨Since.cell hB t1, Since.cell hB t2, Since.cell hB t3, hB⟩)
                  ((go_at_call 17; refine (K_p.out _).mono ?_; rintro e w' ⟨rfl, hr⟩; (first | (have hB := Since.step hSd hr) | (have hB := Since.step hB hr)); clear hr))
                replace t1 := Since.cell hB t1
                replace t2 := Since.cell hB t2
                replace t3 := Since.cell hB t3
                have HS4 := Lib.hid (Since.step hS.out hB)
                have hG' : G2 < w'.heap.size := Nat.lt_of_lt_of_le hG (Below.size hB)
                have hG3' : G3 < w'.heap.size := Nat.lt_of_lt_of_le hG3 (Below.size hB)
                clear hB hSd hS hG hG3
                rename World => wg
                have hSd : Since wg wg.drew := Below.drew (Below.refl _ _)
                go_wp2
                go_region_held3 (fun w' => w'.cell? ⟨G2, k * 2, none⟩ = some (.int .i64 a) ∧ w'.cell? ⟨G2, k * 2 + 1, none⟩ = some (.int .i64 b) ∧ w'.cell? ⟨G3, m, none⟩ = some (.int .i64 z) ∧ Since wg w')
                  (first | exact ⟨t1, t2, t3, hSd⟩ | exact ⟨Since.cell hB t1, Since.cell hB t2, Since.cell hB t3, hB⟩)
                  ((go_at_call 18; refine (K_q.out _).mono ?_; rintro e w' ⟨rfl, hr⟩; (first | (have hB := Since.step hSd hr) | (have hB := Since.step hB hr)); clear hr))
                have HS5 := Lib.hid (Since.step HS4.out hB)
                clear hB hSd HS4 t1 t2 t3
                go_wp2
                go_roundw
                case rel => exact ⟨m + 1, by omega, by go_num, HS5⟩
                case measure => simp [intOf]; omega
              · have hmi : 4 ≤ (m : Int) := by omega
                go_wp2
                go_roundw
                case rel => exact ⟨k + 1, by omega, by go_num, hS⟩
                case measure => simp [intOf]; omega
        · have hki : 3 ≤ (k : Int) := by omega
          have H8 := Lib.hid (H7.out.trans (Below.mono hS.out H7.out.size))
          go_wp2_with fail
          refine (KL'.out _).mono ?_
          rintro e WZ ⟨rfl, hB⟩
          have HZZ := Lib.hid (H8.out.trans (hB.mono H8.out.size))
          clear hB
          go_wp2
          go_ret
          exact ⟨rfl, HZZ.out⟩

end Go.Proofs.Ytpjmmdlcbgidgaa
