/- The law SpanNumbers. -/
import Derived.Test.YtimbgjpjgbjnkaaNew6
import Derived.Test.YtimbgjpjgbjnkaaPks
namespace Go.Proofs.Ytimbgjpjgbjnkaa
open Go.RowKit Go.Shelf

theorem pick_form {xs : List Iv} (hf : Fit xs) (hl : xs.length ≤ 32) : ∃ (rn rd : Int) (q : Bool), (∀ w e w', PickOut xs w e w' → e = .returned (.tuple #[.agg #[.int .i64 rn, .int .i64 rd], .bool q, .int .i64 0]) ∧ Below w.heap.size w w') ∧ q = !decide (xs = []) ∧ (q = true → I64 rn ∧ I64 rd ∧ Qm.Ok rn rd ∧ hasL xs rn rd = true) := by
  have hv := valid_fit hf hl
  by_cases h0 : xs = []
  · refine ⟨0, 0, false, fun w e w' h => ⟨?_, h.1⟩, by rw [decide_eq_true h0]; rfl, fun h => (by cases h)⟩
    rcases h.2 with ⟨h1, _⟩ | ⟨_, _, he⟩ | ⟨_, h1, _⟩
    · exact absurd hv h1
    · exact he
    · exact absurd h0 h1
  · obtain ⟨r, hr⟩ := pick_exists (fit_goods hf) h0
    have ho := (pick_in hr).1
    have hn := ok_nums ho
    refine ⟨r.1, r.2, true, fun w e w' h => ⟨?_, h.1⟩, by rw [decide_eq_false h0]; rfl, fun _ => ⟨hn.1, hn.2, ho, (hasL_iff (fit_goods hf) ho).2 (pick_in hr).2⟩⟩
    rcases h.2 with ⟨h1, _⟩ | ⟨_, h1, _⟩ | ⟨_, _, s, hs, he⟩
    · exact absurd hv h1
    · exact absurd h1 h0
    · rw [he, hs.one hr]
      rfl

theorem num_all {a b : List Iv} (ha : Fit a) (hb : Fit b) (la : a.length ≤ 5) (lb : b.length ≤ 5) : ∃ (U M NA NB O T : List Iv),
    UCall a b U ∧ MCall a b M ∧ NCall a NA ∧ NCall b NB ∧ MCall a NB O ∧ MCall b NA T ∧ (Fit U ∧ Fit M ∧ Fit NA ∧ Fit NB ∧ Fit O ∧ Fit T) ∧ (U.length ≤ 32 ∧ M.length ≤ 32 ∧ NA.length ≤ 32 ∧ NB.length ≤ 32 ∧ O.length ≤ 32 ∧ T.length ≤ 32) ∧
    (∀ n d, Qm.Ok n d → hasL U n d = (hasL a n d || hasL b n d) ∧ hasL M n d = (hasL a n d && hasL b n d) ∧ hasL NA n d = (!hasL a n d)) ∧
    decide (a = b) = (decide (O = []) && decide (T = [])) ∧ (∀ n d, Qm.Ok n d → hasL O n d = true → hasL a n d = true ∧ hasL b n d = false) ∧ (∀ n d, Qm.Ok n d → hasL T n d = true → hasL b n d = true ∧ hasL a n d = false) := by
  obtain ⟨U, f1, i1, l1, e1⟩ := op_union ha hb (by omega)
  obtain ⟨M, f2, i2, l2, e2⟩ := op_meet ha hb (by omega)
  obtain ⟨NA, f3, i3, l3, e3⟩ := op_not ha (by omega)
  obtain ⟨NB, f4, i4, l4, e4⟩ := op_not hb (by omega)
  obtain ⟨O, f5, i5, l5, e5⟩ := op_meet ha f4 (by omega)
  obtain ⟨T, f6, i6, l6, e6⟩ := op_meet hb f3 (by omega)
  refine ⟨U, M, NA, NB, O, T, ucall ha hb (by omega) (by omega) e1, mcall ha hb (by omega) (by omega) e2, ncall ha (by omega) e3, ncall hb (by omega) e4, mcall ha f4 (by omega) (by omega) e5, mcall hb f3 (by omega) (by omega) e6, ⟨f1, f2, f3, f4, f5, f6⟩, ⟨by omega, by omega, by omega, by omega, by omega, by omega⟩, fun n d o => ⟨num_union ha hb f1 i1 o, num_meet ha hb f2 i2 o, num_not ha f3 i3 o⟩, eq_only ha hb f5 f6 (only_in ha i4 i5) (only_in hb i3 i6), fun n d o h => ?_, fun n d o h => ?_⟩
  · rw [num_meet ha f4 f5 i5 o, num_not hb f4 i4 o] at h
    simpa using h
  · rw [num_meet hb f3 f6 i6 o, num_not ha f3 i3 o] at h
    simpa using h

/-- A list of numbers that can be appended to: of the call's own, or full. -/
def LS (B : Nat) (w : World) (v : Value) (L : List (Int × Int)) : Prop := ROwn RRat 25 B w v L ∨ (REls RRat w v L ∧ ∃ g, v = .slice (some ⟨g, 0, none⟩) L.length L.length)

theorem LS.els {B : Nat} {w : World} {v : Value} {L : List (Int × Int)} : LS B w v L → REls RRat w v L
  | .inl h => h.els
  | .inr h => h.1

theorem LS.below {B : Nat} {w W : World} {v : Value} {L : List (Int × Int)} (hB : Below w.heap.size w W) : LS B w v L → LS B W v L
  | .inl h => .inl (h.below hB)
  | .inr h => .inr ⟨h.1.below hB, h.2⟩

set_option maxRecDepth 100000 in
theorem push_ls {ops : Array Oper} {rest : List Oper} {o : Oper} {act : Act} {Q : Exit → Act → World → Prop} {w : World} (hgd : o.guard = none) (s x : Operand)
    (ho : o.op = .call { callee := .builtin .append, args := #[s, x], argTypes := #[36, 36] }) (B : Nat) (v : Value) (L : List (Int × Int)) (n d : Int) (T : TypeId) (g0 : Nat) (hg0 : w.heap.size = g0)
    (hs : act.eval s = v) (hx : act.eval x = .slice (some ⟨g0, 0, none⟩) 1 1) (hown : LS B w v L) (hB : B ≤ w.heap.size) (hl : L.length ≤ 100000000)
    (h : ∀ a m c w', Hid (m = L.length + 1) → Hid (LS B w' (.slice a m c) (L ++ [(n, d)])) → Hid (Below B w w') → wpList Try.prog ops Q rest (act.put o.dst (.slice a m c)) w') :
    wpList Try.prog ops Q (o :: rest) act (w.alloc (.cells #[.int .i64 n, .int .i64 d] T)) := by
  rcases hown with hown | ⟨hE, g, hv⟩
  · refine push_row hgd s x 36 ho RRat 25 16 _ Try.underlying36 Try.infoRat rfl (by decide) B v L [(n, d)] _ T rfl hs g0 1 hg0 rfl hx hown hB (by omega) ?_
    intro a m c w' h1 h2 h3
    exact h a m c w' h1 (Lib.hid (.inl h2.out)) h3
  · subst hg0
    obtain ⟨i0, hi, hz0, hz1, hz2⟩ := info_parts Try.infoRat
    have hb : Below w.heap.size w (w.alloc (.cells #[.int .i64 n, .int .i64 d] T)) := (Below.refl _ _).alloc (Nat.le_refl _) _
    subst hv
    refine wpList_append_grows _ hgd s x 36 ho 25 i0 _ 2 16 Try.underlying36 hi hz0 hz1 hz2 rfl (by decide) (some ⟨g, 0, none⟩) L.length L.length (L.flatMap RRat.cells) hs (fun e => by cases e) (RRat.flat L) ?_ ⟨w.heap.size, 0, none⟩ 1 1 [.int .i64 n, .int .i64 d] hx rfl ?_ ?_ (by omega) (by unfold maxLen; omega) (by omega) ?_
    · intro b e j u hu
      injection e with e
      subst e
      have := (hE.below hb).flat j u hu
      rw [Nat.zero_add] at this
      have e2 : (⟨g, 0, none⟩ : Addr).add j = ⟨g, j, none⟩ := by by_cases h : j = 0 <;> simp [Addr.add, h]
      rw [e2]
      exact this
    · intro j u hu
      have hX := BoxL.made w #[.int .i64 n, .int .i64 d] T
      have e2 : (⟨w.heap.size, 0, none⟩ : Addr).add j = ⟨w.heap.size, j, none⟩ := by by_cases h : j = 0 <;> simp [Addr.add, h]
      rw [e2]
      exact (hX.2 j u hu).1
    · intro u hu
      simp only [List.mem_cons, List.not_mem_nil, or_false] at hu
      rcases hu with rfl | rfl <;> rfl
    · intro v' w1 hO hG
      have hbl : Below B w w1 := ((Below.refl B w).alloc hB _).grown hG (by simp; omega) fun j hj => by cases hj
      have hO' : ROwn RRat 25 (w.heap.size + 1) w1 v' (L ++ [(n, d)]) := by
        unfold ROwn
        rw [List.length_append, List.flatMap_append]
        have := hO
        rw [World.size_alloc] at this
        exact this
      obtain ⟨a, m, c, rfl, hn, hO2⟩ := hO'.slice
      refine h a m c w1 ?_ (Lib.hid (.inl (ROwn.base hO2 (by omega)))) hbl
      have := hn.out
      rw [List.length_append] at this
      exact this

theorem Since.set2 {wb W : World} {N : Nat} {a b : Value} (h : Since wb W) (hN : wb.heap.size ≤ N) : Since wb ((W.setCell ⟨N, 0, none⟩ a).setCell ⟨N, 1, none⟩ b) :=
  Below.setCell (Below.setCell h (p := ⟨N, 0, none⟩) hN _) (p := ⟨N, 1, none⟩) hN _

/-- What a call of Between leaves: a box with a ratio, and no error. -/
def CutN (W : World) (s e : Value) (wx : World) : Prop := ∃ (x y : Int), Qm.Ok x y ∧ CutR W x y 0 s e wx

/-- What Between leaves of two numbers in order. -/
def BtwN (W : World) (e : Ending) (w' : World) : Prop := ∃ x y : Int, e = .returned (.tuple #[.agg #[.int .i64 x, .int .i64 y], .int .i64 0]) ∧ Qm.Ok x y ∧ Below W.heap.size W w'

set_option maxHeartbeats 16000000 in
set_option maxRecDepth 100000 in
theorem law_numbers (a0 : Option Addr) (len0 cap0 : Nat) (z0 : List Int) (a1 : Option Addr) (len1 cap1 : Nat) (z1 : List Int) (a2 a3 : Int) (w : World) (w0 : Came .i64 w a0 len0 cap0 z0) (w1 : Came .i64 w a1 len1 cap1 z1) (w2 : (Lit.int .i64 a2).wf = true) (w3 : (Lit.int .i64 a3).wf = true) :
    Calls Try.prog 6 #[.slice a0 len0 cap0, .slice a1 len1 cap1, .int .i64 a2, .int .i64 a3] w fun e w' => e = .returned (.bool true) ∧ Below w.heap.size w w' := by
  have KS0 := Lib.hid fun W (hB : Below w.heap.size w W) => set_any a0 len0 cap0 (z0.take len0) 5 W (w0.els.below hB) (came_wfs4 w0) (by decide)
  have KS1 := Lib.hid fun W (hB : Below w.heap.size w W) => set_any a1 len1 cap1 (z1.take len1) 5 W (w1.els.below hB) (came_wfs4 w1) (by decide)
  have hqr3 := boundI_range a2 25 (by decide)
  have KB3 := Lib.hid fun W => bound_any a2 25 W (by decide) (by decide) w2
  generalize boundI a2 25 = q3 at *
  have KW := Lib.hid fun W => whole_any q3 W
  have KR := Lib.hid fun W => ratio_any a2 a3 W w2 w3
  have HQ3 : Hid (Qm.Ok q3 1) := Lib.hid ⟨by decide, by decide, by omega, by omega, by unfold Qm.g; simp⟩
  have HB0 : Hid (Below w.heap.size w w) := Lib.hid (Below.refl _ _)
  clear w0 w1 w2 w3 hqr3
  go_enter Try.func6, Try.ntmps6
  go_wp2_with fail
  refine (KS0.out _ HB0.out).mono ?_
  rintro e W1 ⟨L0, al, nl, cl, hf0, hl0, rfl, hE, hr⟩
  have H1 := Lib.hid (HB0.out.trans (hr.out.mono HB0.out.size))
  have RA_1 := hE
  clear hr hE HB0
  go_wp2_with fail
  refine (KS1.out _ H1.out).mono ?_
  rintro e W2 ⟨L1, bl, ml, dl, hf1, hl1, rfl, hE, hr⟩
  have H2 := Lib.hid (H1.out.trans (hr.out.mono H1.out.size))
  have RA_2 := Lib.hid (RA_1.out.below hr.out)
  have RB_2 := hE
  clear hr hE H1 RA_1 KS0 KS1
  obtain ⟨U, M, NA, NB, O, T, hU, hM, hNA, hNB, hO, hT, hfs, hls, hnum, heq, honly, honly2⟩ := num_all hf0 hf1 hl0 hl1
  have XU := Lib.hid hU
  have XM := Lib.hid hM
  have XNA := Lib.hid hNA
  have XNB := Lib.hid hNB
  have XO := Lib.hid hO
  have XT := Lib.hid hT
  have HFS := Lib.hid hfs
  have HLS := Lib.hid hls
  have HNUM := Lib.hid hnum
  have HEQ := Lib.hid heq
  have HON := Lib.hid honly
  have HON2 := Lib.hid honly2
  have HF0 := Lib.hid hf0
  have HF1 := Lib.hid hf1
  have HL0 := Lib.hid hl0
  have HL1 := Lib.hid hl1
  clear hU hM hNA hNB hO hT hfs hls hnum heq honly honly2 hf0 hf1 hl0 hl1
  go_wp2_with fail
  refine (XU.out _ _ _ RA_2.out RB_2.out).mono ?_
  rintro e W3 ⟨ua, un, uc, rfl, hE, hr⟩
  have H3 := Lib.hid (H2.out.trans (hr.mono H2.out.size))
  have RA_3 := Lib.hid (RA_2.out.below hr)
  have RB_3 := Lib.hid (RB_2.out.below hr)
  have RU_3 := Lib.hid hE
  clear hr hE H2 RA_2 RB_2 XU
  go_wp2_with fail
  refine (XM.out _ _ _ RA_3.out RB_3.out).mono ?_
  rintro e W4 ⟨ma, mn, mc, rfl, hE, hr⟩
  have H4 := Lib.hid (H3.out.trans (hr.mono H3.out.size))
  have RA_4 := Lib.hid (RA_3.out.below hr)
  have RB_4 := Lib.hid (RB_3.out.below hr)
  have RU_4 := Lib.hid (RU_3.out.below hr)
  have RM_4 := Lib.hid hE
  clear hr hE H3 RA_3 RB_3 RU_3 XM
  go_wp2_with fail
  refine (XNA.out _ _ RA_4.out).mono ?_
  rintro e W5 ⟨na, nn, nc, rfl, hE, hr⟩
  have H5 := Lib.hid (H4.out.trans (hr.mono H4.out.size))
  have RA_5 := Lib.hid (RA_4.out.below hr)
  have RB_5 := Lib.hid (RB_4.out.below hr)
  have RU_5 := Lib.hid (RU_4.out.below hr)
  have RM_5 := Lib.hid (RM_4.out.below hr)
  have RN_5 := Lib.hid hE
  clear hr hE H4 RA_4 RB_4 RU_4 RM_4 XNA
  go_wp2_with fail
  refine (XNB.out _ _ RB_5.out).mono ?_
  rintro e W6 ⟨ka, kn, kc, rfl, hE, hr⟩
  have H6 := Lib.hid (H5.out.trans (hr.mono H5.out.size))
  have RA_6 := Lib.hid (RA_5.out.below hr)
  have RB_6 := Lib.hid (RB_5.out.below hr)
  have RU_6 := Lib.hid (RU_5.out.below hr)
  have RM_6 := Lib.hid (RM_5.out.below hr)
  have RN_6 := Lib.hid (RN_5.out.below hr)
  have RK_6 := Lib.hid hE
  clear hr hE H5 RA_5 RB_5 RU_5 RM_5 RN_5 XNB
  go_wp2_with fail
  refine (KR.out _).mono ?_
  rintro e W7 ⟨p0, p1, hpk, rfl, hr⟩
  unfold rv
  have HPK : Hid (Qm.Ok p0 p1) := Lib.hid hpk
  have h7 : Below W6.heap.size W6 W7 := hr
  clear hr hpk
  go_wp2_with fail
  refine (KB3.out _).mono ?_
  rintro e w' ⟨rfl, rfl⟩
  go_wp2_with fail
  refine (KW.out _).mono ?_
  rintro e W8 ⟨rfl, hr⟩
  have h8 := Since.step h7 hr
  have hNO := ROwn.new RRat 25 W8 [(p0, p1), (q3, 1)] #[.int .i64 p0, .int .i64 p1, .int .i64 q3, .int .i64 1] rfl (by unfold maxLen; simp)
  have h9 : Since W6 (W8.alloc (.cells #[.int .i64 p0, .int .i64 p1, .int .i64 q3, .int .i64 1] 25)) := Below.alloc h8 (Below.size h8) _
  have hs9 : W6.heap.size ≤ W8.heap.size := Below.size h8
  have hW9 : ∃ W9, W9 = W8.alloc (.cells #[.int .i64 p0, .int .i64 p1, .int .i64 q3, .int .i64 1] 25) := ⟨_, rfl⟩
  obtain ⟨W9, hW9⟩ := hW9
  rw [← hW9] at hNO h9
  have H9 := Lib.hid (H6.out.trans (Below.mono h9 H6.out.size))
  have RA_9 := Lib.hid (RA_6.out.below h9)
  have RB_9 := Lib.hid (RB_6.out.below h9)
  have RU_9 := Lib.hid (RU_6.out.below h9)
  have RM_9 := Lib.hid (RM_6.out.below h9)
  have RN_9 := Lib.hid (RN_6.out.below h9)
  have RK_9 := Lib.hid (RK_6.out.below h9)
  have HNO := Lib.hid (ROwn.base hNO hs9)
  have HNI : Hid (∀ p ∈ [(p0, p1), (q3, 1)], Qm.Ok p.1 p.2) := Lib.hid fun p hp => by
    simp only [List.mem_cons, List.not_mem_nil, or_false] at hp
    rcases hp with rfl | rfl
    · exact HPK.out
    · exact HQ3.out
  have HNL : Hid ([(p0, p1), (q3, 1)].length = 2) := Lib.hid rfl
  generalize [(p0, p1), (q3, 1)] = NL at *
  generalize hbw : W6.heap.size = BW at *
  have HBW : Hid (w.heap.size ≤ BW) := Lib.hid (by rw [← hbw]; exact H6.out.size)
  have HBW9 : Hid (BW ≤ W9.heap.size) := Lib.hid (by have := Below.size h9; rw [← hbw]; exact this)
  clear hr h7 h8 h9 hs9 hNO RA_6 RB_6 RU_6 RM_6 RN_6 RK_6 H6 HPK HQ3 hbw KR KB3 KW
  go_upto_region 10 with (fail)
  rw [← hW9]
  generalize W8.heap.size = nb at *
  clear hW9
  have hLE := LEls.new2 RA_9.out RB_9.out 23
  have h10 : Since W9 (W9.alloc (.cells #[.slice al nl cl, .slice bl ml dl] 23)) := Below.alloc (Below.refl _ _) (Nat.le_refl _) _
  have kp := points_any _ [L0, L1] _ hLE (fun xs hx => by simp at hx; rcases hx with rfl | rfl; (· exact fit_goods HF0.out); (· exact fit_goods HF1.out)) (fun xs hx => by simp at hx; rcases hx with rfl | rfl; (· have := HL0.out; omega); (· have := HL1.out; omega)) (by simp)
  have KP := Lib.hid kp
  have H10 := Lib.hid h10
  clear kp hLE h10
  go_wp2_with fail
  refine (KP.out).mono ?_
  rintro e W11 ⟨P, pv, hP, -, hPl, rfl, hPS, hr⟩
  have h11 : Since W9 W11 := Since.step H10.out hr
  obtain ⟨pa, pc, rfl⟩ := hPS.shape
  have H11 := Lib.hid h11
  have HPS := Lib.hid hPS
  have HP := Lib.hid hP
  have hle0 : REls RRat W11 (.slice (some ⟨nb, 0, none⟩) NL.length NL.length) NL := (HNO.out.below h11).els
  have HO0 : Hid (LS W11.heap.size W11 (.slice (some ⟨nb, 0, none⟩) 2 2) NL) := Lib.hid (by rw [HNL.out] at hle0; exact .inr ⟨hle0, nb, by rw [HNL.out]⟩)
  have hPl2 : P.length ≤ 400000 := by simpa using hPl
  generalize hnp : P.length = np at *
  have HNP := Lib.hid hnp
  have HBW11 := Lib.hid (H9.out.trans (Below.mono h11 H9.out.size))
  have RA_11 := Lib.hid (RA_9.out.below h11)
  have RB_11 := Lib.hid (RB_9.out.below h11)
  have RU_11 := Lib.hid (RU_9.out.below h11)
  have RM_11 := Lib.hid (RM_9.out.below h11)
  have RN_11 := Lib.hid (RN_9.out.below h11)
  have RK_11 := Lib.hid (RK_9.out.below h11)
  have hS0 : Hid (Since W11 W11) := Lib.hid (Below.refl _ _)
  clear hr h11 hP hPl hPS hnp HNO KP H10 hle0 H11 H9 RA_9 RB_9 RU_9 RM_9 RN_9 RK_9 HBW HBW9
  go_wp2
  go_loopw [19, 21] (fun v x wr => ∃ i : Nat, ∃ L ao no co, i ≤ np ∧ x = .int .i64 i ∧ v = .slice ao no co ∧ no ≤ 2 + 2 * i ∧ Hid (∀ p ∈ L, Qm.Ok p.1 p.2) ∧ Hid (LS W11.heap.size wr (.slice ao no co) L) ∧ Hid (Since W11 wr)) (fun _ x _ => np + 1 - (intOf x).toNat)
  case atStart => exact ⟨0, NL, _, _, _, by omega, rfl, rfl, by omega, HNI, HO0, hS0⟩
  case round =>
    obtain ⟨i, L, ao, no, co, hi, rfl, rfl, hno, hL, hO, hS⟩ := hrel
    have hll := hO.out.els.len
    have HLL : Hid (L.length ≤ 100000000) := Lib.hid (by omega)
    have HLN := Lib.hid hll
    have hsz := Below.size hS.out
    clear hll
    by_cases hlt : i < np
    · have i1 : (i : Int) < np := by omega
      obtain ⟨p, hp⟩ : ∃ p, P[i]? = some p := ⟨_, List.getElem?_eq_getElem (by rw [HNP.out]; exact hlt)⟩
      have hPw := HPS.out.els.below hS.out
      obtain ⟨g, rfl, -⟩ := hPw.get hlt
      obtain ⟨t0, t1, -⟩ := rat_at hPw hp
      have hpo := (HP.out.1 p (List.mem_of_getElem? hp)).1
      have HPI := Lib.hid hp
      clear hp
      by_cases hi0 : i = 0
      · have i2 : ¬ (i : Int) > 0 := by omega
        obtain ⟨pn, pd⟩ := p
        simp only at t0 t1 hpo
        have HPO := Lib.hid hpo
        clear hpo hi0
        go_wp2_with (at_builtin; refine push_ls rfl _ _ rfl W11.heap.size (.slice ao no co) L pn pd _ _ rfl rfl rfl hO.out hsz HLL.out ?_; intro a2 n2 c2 w2 hn2 hO2 hB2)
        have hn3 : n2 ≤ 2 + 2 * (i + 1) := by have := hn2.out; have := HLN.out; omega
        have HL2 : Hid (∀ p ∈ L ++ [(pn, pd)], Qm.Ok p.1 p.2) := Lib.hid fun q hq => by
          rcases List.mem_append.1 hq with hq | hq
          · exact hL.out q hq
          · rw [List.mem_singleton.1 hq]; exact HPO.out
        have HS2 : Hid (Since W11 w2) := Lib.hid (hS.out.trans hB2.out)
        go_wp2
        go_roundw
        case rel => exact ⟨i + 1, _, a2, n2, c2, by omega, by go_num, rfl, hn3, HL2, hO2, HS2⟩
        case measure => simp [intOf]; omega
      · have i2 : (i : Int) > 0 := by omega
        obtain ⟨q, hq⟩ : ∃ q, P[i - 1]? = some q := ⟨_, List.getElem?_eq_getElem (by rw [HNP.out]; omega)⟩
        obtain ⟨u0, u1, -⟩ := rat_at hPw hq
        have hqo := HP.out.1 q (List.mem_of_getElem? hq)
        have hpo2 := HP.out.1 p (List.mem_of_getElem? HPI.out)
        have hkk : q.1 * p.2 < p.1 * q.2 := by
          have h1 := List.pairwise_iff_getElem.1 HP.out.2 (i - 1) i (by rw [HNP.out]; omega) (by rw [HNP.out]; exact hlt) (by omega)
          have e1 := (List.getElem?_eq_some_iff.1 hq).2
          have e2 := (List.getElem?_eq_some_iff.1 HPI.out).2
          rw [e1, e2] at h1
          exact (kR_lt hqo.1.1 hqo.1.2.1 hpo2.1.1 hpo2.1.2.1).1 h1
        have kb := fun W => (rbtw_any q.1 q.2 p.1 p.2 W (ok_nums hqo.1).1 (ok_nums hqo.1).2 (ok_nums hpo2.1).1 (ok_nums hpo2.1).2).mono (R' := BtwN W) fun e w' hp => by
          obtain ⟨R, hR, he, hr⟩ := hp
          obtain ⟨h0, hok⟩ := btw_small hR hqo hpo2 hkk
          refine ⟨R.1, R.2.1, ?_, hok, hr⟩
          rw [he, ← h0]
          rfl
        obtain ⟨j, hj⟩ : ∃ j, i - 1 = j := ⟨_, rfl⟩
        rw [hj] at u0 u1
        have m1 : IntKind.i64.wrap ((i : Int) - 1) = (j : Int) := by rw [IntWalk.i64_in _ (by omega)]; omega
        have m2 : (0 : Int) ≤ (j : Int) := by omega
        have m3 : (j : Int) < np := by omega
        have m4 : ((j : Int)).toNat = j := by omega
        have m5 : (0 : Int) ≤ (i : Int) := by omega
        obtain ⟨pn, pd⟩ := p
        obtain ⟨qn, qd⟩ := q
        simp only at t0 t1 hpo u0 u1 kb
        unfold rv at kb
        have HPO := Lib.hid hpo
        have KB := Lib.hid kb
        have T0 := Lib.hid t0
        have T1 := Lib.hid t1
        have U0 := Lib.hid u0
        have U1 := Lib.hid u1
        have HPW := Lib.hid hPw
        clear hpo hi0 hqo hpo2 hkk kb u0 u1 hPw
        have HQI := Lib.hid hq
        clear hq
        go_wp2_with (at_builtin; refine push_ls rfl _ _ rfl W11.heap.size (.slice ao no co) L pn pd _ _ rfl rfl rfl hO.out hsz HLL.out ?_; intro a2 n2 c2 w2 hn2 hO2 hB2)
        clear t0 t1
        have HS2 : Hid (Since W11 w2) := Lib.hid (hS.out.trans hB2.out)
        have hPw2 := HPS.out.els.below HS2.out
        obtain ⟨t0, t1, -⟩ := rat_at hPw2 HPI.out
        obtain ⟨u0, u1, -⟩ := rat_at hPw2 HQI.out
        rw [hj] at u0 u1
        simp only at t0 t1 u0 u1
        clear hPw2 hj T0 T1 U0 U1 hB2
        go_upto_region 16 with (fail)
        go_cut [22, 23] (fun s1 s2 wx => CutN w2 s1 s2 wx)
        case first =>
          have hSd : Since w2 w2.drew := Below.drew (Below.refl _ _)
          go_region_held3 (fun w' => w'.cell? ⟨g, j * 2, none⟩ = some (.int .i64 qn) ∧ w'.cell? ⟨g, j * 2 + 1, none⟩ = some (.int .i64 qd) ∧ w'.cell? ⟨g, i * 2, none⟩ = some (.int .i64 pn) ∧ w'.cell? ⟨g, i * 2 + 1, none⟩ = some (.int .i64 pd) ∧ Since w2 w')
            (first | with_reducible refine ⟨Since.cell ?_ u0, Since.cell ?_ u1, Since.cell ?_ t0, Since.cell ?_ t1, ?_⟩ <;> exact hSd | with_reducible refine ⟨Since.cell ?_ u0, Since.cell ?_ u1, Since.cell ?_ t0, Since.cell ?_ t1, ?_⟩ <;> exact hB | with_reducible refine ⟨Since.cell ?_ u0, Since.cell ?_ u1, Since.cell ?_ t0, Since.cell ?_ t1, ?_⟩ <;> exact Since.alloc hB _ | with_reducible refine ⟨Since.cell ?_ u0, Since.cell ?_ u1, Since.cell ?_ t0, Since.cell ?_ t1, ?_⟩ <;> exact Since.alloc hSd _ | with_reducible refine ⟨Since.cell ?_ u0, Since.cell ?_ u1, Since.cell ?_ t0, Since.cell ?_ t1, ?_⟩ <;> exact Since.adrew _ _ | with_reducible refine ⟨Since.cell ?_ u0, Since.cell ?_ u1, Since.cell ?_ t0, Since.cell ?_ t1, ?_⟩ <;> exact Since.set2 hB (Nat.le_refl _) | with_reducible refine ⟨Since.cell ?_ u0, Since.cell ?_ u1, Since.cell ?_ t0, Since.cell ?_ t1, ?_⟩ <;> exact Since.set2 (Since.alloc hB _) (Below.size hB))
            ((go_at_call 33; refine (KB.out _).mono ?_; rintro e w' ⟨x, y, rfl, hxy, hr⟩; (first | with_reducible have hB := Since.step hSd hr | with_reducible have BX := Lib.hid (BoxAt.newd hr); have hB := Since.step (Since.adrew _ _) hr); clear hr; (first | obtain ⟨b0, b1, b2, b3, b4⟩ := BX.out | skip)))
          all_goals (go_wp2_with fail; go_meet; exact ⟨x, y, hxy, by first | exact CutR.alloc _ (Below.refl _ _) hB | exact CutR.store (Below.refl _ _) hB BX.out (Nat.le_refl _)⟩)
        case rest =>
        obtain ⟨x, y, hxy, N, rfl, rfl, hbx, hN, hr⟩ := hcut
        rename World => w3
        have HXY := Lib.hid hxy
        have HS3 : Hid (Since W11 w3) := Lib.hid (Since.step HS2.out hr)
        have hO3 := hO2.out.below hr
        have HO3 := Lib.hid hO3
        have hsz3 := Below.size HS3.out
        have HL3 : Hid ((L ++ [(pn, pd)]).length ≤ 100000000) := Lib.hid (by have := hO2.out.els.len; have := hn2.out; have := HLN.out; omega)
        have HLN3 := Lib.hid hO2.out.els.len
        obtain ⟨b0, b1, -, -, b4⟩ := hbx
        have HL2 : Hid (∀ p ∈ L ++ [(pn, pd)], Qm.Ok p.1 p.2) := Lib.hid fun q hq => by
          rcases List.mem_append.1 hq with hq | hq
          · exact hL.out q hq
          · rw [List.mem_singleton.1 hq]; exact HPO.out
        have HNN : Hid (n2 ≤ no + 1) := Lib.hid (by have := hn2.out; have := HLN.out; omega)
        clear hxy hr hO3 hO2 HS2 hN t0 t1 u0 u1 hn2
        generalize L ++ [(pn, pd)] = L2 at *
        go_wp2_with (at_builtin; refine push_ls rfl _ _ rfl W11.heap.size (.slice a2 n2 c2) L2 x y _ _ rfl rfl rfl HO3.out hsz3 HL3.out ?_; intro a4 n4 c4 w4 hn4 hO4 hB4)
        have hn3 : n4 ≤ 2 + 2 * (i + 1) := by have := hn4.out; have := HLN3.out; have := HNN.out; omega
        have HL4 : Hid (∀ p ∈ L2 ++ [(x, y)], Qm.Ok p.1 p.2) := Lib.hid fun q hq => by
          rcases List.mem_append.1 hq with hq | hq
          · exact HL2.out q hq
          · rw [List.mem_singleton.1 hq]; exact HXY.out
        have HS4 : Hid (Since W11 w4) := Lib.hid (HS3.out.trans hB4.out)
        clear hB4 hn4
        go_wp2
        go_roundw
        case rel => exact ⟨i + 1, _, a4, n4, c4, by omega, by go_num, rfl, hn3, HL4, hO4, HS4⟩
        case measure => simp [intOf]; omega
    · have i1 : ¬ (i : Int) < np := by omega
      have hE0 := hO.out.els
      have hno9 : no ≤ 100000000 := by rw [HLN.out]; exact HLL.out
      have HE0 := Lib.hid hE0
      have RA := Lib.hid (RA_11.out.below hS.out)
      have RB := Lib.hid (RB_11.out.below hS.out)
      have RU := Lib.hid (RU_11.out.below hS.out)
      have RM := Lib.hid (RM_11.out.below hS.out)
      have RN := Lib.hid (RN_11.out.below hS.out)
      have RK := Lib.hid (RK_11.out.below hS.out)
      have HBR := Lib.hid (HBW11.out.trans (Below.mono hS.out HBW11.out.size))
      obtain ⟨wo, rfl⟩ : ∃ wo : World, wo = wr := ⟨_, rfl⟩
      have hS0' : Hid (Since wo wo) := Lib.hid (Below.refl _ _)
      clear hO hE0 hS RA_11 RB_11 RU_11 RM_11 RN_11 RK_11 HBW11 HPS HP HNI HO0 hS0 HNL HNP hsz
      go_wp2
      go_loopw [24] (fun x wr => ∃ k : Nat, k ≤ no ∧ x = .int .i64 k ∧ Hid (Since wo wr)) (fun x _ => no + 1 - (intOf x).toNat)
      case atStart => exact ⟨0, by omega, rfl, hS0'⟩
      case round =>
        obtain ⟨k, hk, rfl, hS⟩ := hrel
        by_cases hlt2 : k < no
        · have k1 : (k : Int) < no := by omega
          obtain ⟨q, hq⟩ : ∃ q, L[k]? = some q := ⟨_, List.getElem?_eq_getElem (by rw [← HLN.out]; exact hlt2)⟩
          have hEw := HE0.out.below hS.out
          obtain ⟨g, rfl, -⟩ := hEw.get hlt2
          obtain ⟨t0, t1, -⟩ := rat_at hEw hq
          have hqo := hL.out q (List.mem_of_getElem? hq)
          have hnum := HNUM.out q.1 q.2 hqo
          have hn1 := (ok_nums hqo).1
          have hn2 := (ok_nums hqo).2
          obtain ⟨hfU, hfM, hfN, -⟩ := HFS.out
          obtain ⟨hlU, hlM, hlN, -⟩ := HLS.out
          have kA := fun W (h : Since wr W) => (shas_any (.slice al nl cl) L0 q.1 q.2 W ((RA.out.below hS.out).below h) HF0.out.wf (by have := HL0.out; omega) hn1 hn2).mono (R' := fun e w' => e = .returned (.bool (hasL L0 q.1 q.2)) ∧ Since wr w') fun e w' hq => ⟨hq.1, Since.step h hq.2⟩
          have kB := fun W (h : Since wr W) => (shas_any (.slice bl ml dl) L1 q.1 q.2 W ((RB.out.below hS.out).below h) HF1.out.wf (by have := HL1.out; omega) hn1 hn2).mono (R' := fun e w' => e = .returned (.bool (hasL L1 q.1 q.2)) ∧ Since wr w') fun e w' hq => ⟨hq.1, Since.step h hq.2⟩
          have kU := fun W (h : Since wr W) => (shas_any (.slice ua un uc) U q.1 q.2 W ((RU.out.below hS.out).below h) hfU.wf (by omega) hn1 hn2).mono (R' := fun e w' => e = .returned (.bool (hasL L0 q.1 q.2 || hasL L1 q.1 q.2)) ∧ Since wr w') fun e w' hq => ⟨hq.1.trans (by rw [hnum.1]), Since.step h hq.2⟩
          have kM := fun W (h : Since wr W) => (shas_any (.slice ma mn mc) M q.1 q.2 W ((RM.out.below hS.out).below h) hfM.wf (by omega) hn1 hn2).mono (R' := fun e w' => e = .returned (.bool (hasL L0 q.1 q.2 && hasL L1 q.1 q.2)) ∧ Since wr w') fun e w' hq => ⟨hq.1.trans (by rw [hnum.2.1]), Since.step h hq.2⟩
          have kN := fun W (h : Since wr W) => (shas_any (.slice na nn nc) NA q.1 q.2 W ((RN.out.below hS.out).below h) hfN.wf (by omega) hn1 hn2).mono (R' := fun e w' => e = .returned (.bool (!hasL L0 q.1 q.2)) ∧ Since wr w') fun e w' hq => ⟨hq.1.trans (by rw [hnum.2.2]), Since.step h hq.2⟩
          generalize hasL L0 q.1 q.2 = G0 at *
          generalize hasL L1 q.1 q.2 = G1 at *
          obtain ⟨qn, qd⟩ := q
          unfold rv at kA kB kU kM kN
          simp only at t0 t1 kA kB kU kM kN
          have HT0 := Lib.hid t0
          have HT1 := Lib.hid t1
          have HW0 : Hid (Since wr wr) := Lib.hid (Below.refl _ _)
          have KA := Lib.hid kA
          have KB := Lib.hid kB
          have KU := Lib.hid kU
          have KM := Lib.hid kM
          have KN := Lib.hid kN
          clear kA kB kU kM kN hq hEw hqo hnum hn1 hn2 hfU hfM hfN hlU hlM hlN
          cases G0
          all_goals
            cases G1
          all_goals
            go_wp2_with fail
            refine (KA.out _ HW0.out).mono ?_
            rintro e w5 ⟨rfl, h5⟩
            have H5 := Lib.hid h5
            have a0 := Since.cell h5 HT0.out
            have a1 := Since.cell h5 HT1.out
            clear t0 t1 h5
            go_wp2_with fail
            refine (KB.out _ H5.out).mono ?_
            rintro e w6 ⟨rfl, h6⟩
            have H6 := Lib.hid h6
            have b0 := Since.cell h6 HT0.out
            have b1 := Since.cell h6 HT1.out
            clear a0 a1 h6 H5
            go_wp2_with fail
            refine (KU.out _ H6.out).mono ?_
            rintro e w7 ⟨rfl, h7⟩
            have H7 := Lib.hid h7
            have a0 := Since.cell h7 HT0.out
            have a1 := Since.cell h7 HT1.out
            clear b0 b1 h7 H6
            go_wp2_with fail
            refine (KM.out _ H7.out).mono ?_
            rintro e w8 ⟨rfl, h8⟩
            have H8 := Lib.hid h8
            have b0 := Since.cell h8 HT0.out
            have b1 := Since.cell h8 HT1.out
            clear a0 a1 h8 H7
            go_wp2_with fail
            refine (KN.out _ H8.out).mono ?_
            rintro e w9 ⟨rfl, h9⟩
            have H9 := Lib.hid (Since.step hS.out h9)
            clear b0 b1 h9 H8
            go_wp2
            go_roundw
            case rel => exact ⟨k + 1, by omega, by go_num, H9⟩
            case measure => simp [intOf]; omega
        · have k1 : ¬ (k : Int) < no := by omega
          have RA2 := Lib.hid (RA.out.below hS.out)
          have RB2 := Lib.hid (RB.out.below hS.out)
          have RN2 := Lib.hid (RN.out.below hS.out)
          have RK2 := Lib.hid (RK.out.below hS.out)
          have HBZ := Lib.hid (HBR.out.trans (Below.mono hS.out HBR.out.size))
          clear RA RB RU RM RN RK HBR hS hS0' HE0
          obtain ⟨rn, rd, iq, hPO, hiq, hio⟩ := pick_form HFS.out.2.2.2.2.1 HLS.out.2.2.2.2.1
          obtain ⟨sn, sd, jq, hPT, hjq, hjo⟩ := pick_form HFS.out.2.2.2.2.2 HLS.out.2.2.2.2.2
          have kp1 := fun (sv : Value) W (h : REls RIv W sv O) => (Calls.mono (pick_any sv O W h HFS.out.2.2.2.2.1.wf (by have := HLS.out.2.2.2.2.1; omega)) fun e w' hp => hPO _ e w' hp)
          have kp2 := fun (sv : Value) W (h : REls RIv W sv T) => (Calls.mono (pick_any sv T W h HFS.out.2.2.2.2.2.wf (by have := HLS.out.2.2.2.2.2; omega)) fun e w' hp => hPT _ e w' hp)
          have ke := fun W (h1 : REls RIv W (.slice al nl cl) L0) (h2 : REls RIv W (.slice bl ml dl) L1) => equal_any _ _ L0 L1 W h1 h2 (by have := HL0.out; omega)
          rw [HEQ.out] at ke
          have hOO := HON.out
          have hTT := HON2.out
          have hh1 : iq = true → I64 rn ∧ I64 rd ∧ hasL L0 rn rd = true ∧ hasL L1 rn rd = false := fun h => by
            obtain ⟨x1, x2, x3, x4⟩ := hio h
            exact ⟨x1, x2, hOO rn rd x3 x4⟩
          have hh2 : jq = true → I64 sn ∧ I64 sd ∧ hasL L1 sn sd = true ∧ hasL L0 sn sd = false := fun h => by
            obtain ⟨x1, x2, x3, x4⟩ := hjo h
            exact ⟨x1, x2, hTT sn sd x3 x4⟩
          have ka := fun n d (hn : I64 n) (hd : I64 d) W (h : REls RIv W (.slice al nl cl) L0) => shas_any _ L0 n d W h HF0.out.wf (by have := HL0.out; omega) hn hd
          have kb := fun n d (hn : I64 n) (hd : I64 d) W (h : REls RIv W (.slice bl ml dl) L1) => shas_any _ L1 n d W h HF1.out.wf (by have := HL1.out; omega) hn hd
          unfold rv at ka kb
          generalize decide (O = []) = dO at *
          generalize decide (T = []) = dT at *
          have KP1 := Lib.hid kp1
          have KP2 := Lib.hid kp2
          have KE := Lib.hid ke
          have HH1 := Lib.hid hh1
          have HH2 := Lib.hid hh2
          have KAA := Lib.hid ka
          have KBB := Lib.hid kb
          clear hPO hPT hio hjo kp1 kp2 ke hOO hTT hh1 hh2 ka kb HEQ HON HON2
          go_wp2_with fail
          refine (XO.out _ _ _ RA2.out RK2.out).mono ?_
          rintro e W13 ⟨oa, on', oc, rfl, hE, hr⟩
          have HBY := Lib.hid (HBZ.out.trans (hr.mono HBZ.out.size))
          have RA3 := Lib.hid (RA2.out.below hr)
          have RB3 := Lib.hid (RB2.out.below hr)
          have RN3 := Lib.hid (RN2.out.below hr)
          have RO3 := Lib.hid hE
          clear hr hE RA2 RB2 RN2 RK2 HBZ XO
          go_wp2_with fail
          refine (XT.out _ _ _ RB3.out RN3.out).mono ?_
          rintro e W14 ⟨ta, tn, tc, rfl, hE, hr⟩
          have HBX := Lib.hid (HBY.out.trans (hr.mono HBY.out.size))
          have RA4 := Lib.hid (RA3.out.below hr)
          have RB4 := Lib.hid (RB3.out.below hr)
          have RO4 := Lib.hid (RO3.out.below hr)
          have RT4 := Lib.hid hE
          clear hr hE RA3 RB3 RN3 RO3 HBY XT
          go_wp2_with fail
          refine (KP1.out _ _ RO4.out).mono ?_
          rintro e W15 ⟨rfl, hr⟩
          have hbx : Since W14 (W15.alloc (.cells #[.int .i64 rn, .int .i64 rd] 25)) := Below.alloc hr hr.size _
          have X1 := Lib.hid (BoxL.made W15 #[.int .i64 rn, .int .i64 rd] 25)
          have HS15 := Lib.hid hbx
          have RT5 := Lib.hid (RT4.out.below hbx)
          clear hr hbx
          go_wp2_with fail
          refine (KP2.out _ _ RT5.out).mono ?_
          rintro e W16 ⟨rfl, hr⟩
          have hS16 := Since.step HS15.out hr
          have hbx : Since W14 (W16.alloc (.cells #[.int .i64 sn, .int .i64 sd] 25)) := Below.alloc hS16 (Below.size hS16) _
          have X1' := Lib.hid ((X1.out.keep hr).under (.cells #[.int .i64 sn, .int .i64 sd] 25))
          have X2 := Lib.hid (BoxL.made W16 #[.int .i64 sn, .int .i64 sd] 25)
          obtain ⟨W17, hW17⟩ : ∃ W17, W17 = W16.alloc (.cells #[.int .i64 sn, .int .i64 sd] 25) := ⟨_, rfl⟩
          rw [← hW17] at hbx X1' X2
          have RA5 := Lib.hid (RA4.out.below hbx)
          have RB5 := Lib.hid (RB4.out.below hbx)
          have HB17 := Lib.hid (HBX.out.trans (Below.mono hbx HBX.out.size))
          clear hr hS16 hbx X1 HS15 RT5 RA4 RB4 RO4 RT4 HBX KP1 KP2
          go_upto_region 31 with (fail)
          rw [← hW17]
          generalize W16.heap.size = N2 at *
          generalize W15.heap.size = N1 at *
          clear hW17
          have ke := KE.out _ RA5.out RB5.out
          subst hiq
          subst hjq
          cases dO
          · cases dT
            · have KE' := Lib.hid ke
              clear ke KE
              go_wp2_with fail
              refine (KE'.out).mono ?_
              rintro e w1 ⟨rfl, hr⟩
              have RA_0 := Lib.hid (RA5.out.below hr)
              have RB_0 := Lib.hid (RB5.out.below hr)
              have XA_0 := Lib.hid (X1'.out.keep hr)
              have XB_0 := Lib.hid (X2.out.keep hr)
              have HB_0 := Lib.hid (HB17.out.trans (hr.mono HB17.out.size))
              clear hr KE' RA5 RB5 X1' X2 HB17
              obtain ⟨c0, c1, -, -, -⟩ := XA_0.out.open2
              have kh := KAA.out _ _ (HH1.out rfl).1 (HH1.out rfl).2.1 _ RA_0.out
              rw [(HH1.out rfl).2.2.1] at kh
              have KH := Lib.hid kh
              clear kh
              go_wp2_with fail
              refine (KH.out).mono ?_
              rintro e w2 ⟨rfl, hr⟩
              have RA_1 := Lib.hid (RA_0.out.below hr)
              have RB_1 := Lib.hid (RB_0.out.below hr)
              have XA_1 := Lib.hid (XA_0.out.keep hr)
              have XB_1 := Lib.hid (XB_0.out.keep hr)
              have HB_1 := Lib.hid (HB_0.out.trans (hr.mono HB_0.out.size))
              clear hr KH RA_0 RB_0 XA_0 XB_0 HB_0 c0 c1
              obtain ⟨c0, c1, -, -, -⟩ := XA_1.out.open2
              have kh := KBB.out _ _ (HH1.out rfl).1 (HH1.out rfl).2.1 _ RB_1.out
              rw [(HH1.out rfl).2.2.2] at kh
              have KH := Lib.hid kh
              clear kh
              go_wp2_with fail
              refine (KH.out).mono ?_
              rintro e w2 ⟨rfl, hr⟩
              have RA_2 := Lib.hid (RA_1.out.below hr)
              have RB_2 := Lib.hid (RB_1.out.below hr)
              have XA_2 := Lib.hid (XA_1.out.keep hr)
              have XB_2 := Lib.hid (XB_1.out.keep hr)
              have HB_2 := Lib.hid (HB_1.out.trans (hr.mono HB_1.out.size))
              clear hr KH RA_1 RB_1 XA_1 XB_1 HB_1 c0 c1
              obtain ⟨c0, c1, -, -, -⟩ := XB_2.out.open2
              have kh := KBB.out _ _ (HH2.out rfl).1 (HH2.out rfl).2.1 _ RB_2.out
              rw [(HH2.out rfl).2.2.1] at kh
              have KH := Lib.hid kh
              clear kh
              go_wp2_with fail
              refine (KH.out).mono ?_
              rintro e w2 ⟨rfl, hr⟩
              have RA_3 := Lib.hid (RA_2.out.below hr)
              have RB_3 := Lib.hid (RB_2.out.below hr)
              have XA_3 := Lib.hid (XA_2.out.keep hr)
              have XB_3 := Lib.hid (XB_2.out.keep hr)
              have HB_3 := Lib.hid (HB_2.out.trans (hr.mono HB_2.out.size))
              clear hr KH RA_2 RB_2 XA_2 XB_2 HB_2 c0 c1
              obtain ⟨c0, c1, -, -, -⟩ := XB_3.out.open2
              have kh := KAA.out _ _ (HH2.out rfl).1 (HH2.out rfl).2.1 _ RA_3.out
              rw [(HH2.out rfl).2.2.2] at kh
              have KH := Lib.hid kh
              clear kh
              go_wp2_with fail
              refine (KH.out).mono ?_
              rintro e w2 ⟨rfl, hr⟩
              have RA_4 := Lib.hid (RA_3.out.below hr)
              have RB_4 := Lib.hid (RB_3.out.below hr)
              have XA_4 := Lib.hid (XA_3.out.keep hr)
              have XB_4 := Lib.hid (XB_3.out.keep hr)
              have HB_4 := Lib.hid (HB_3.out.trans (hr.mono HB_3.out.size))
              clear hr KH RA_3 RB_3 XA_3 XB_3 HB_3 c0 c1
              go_wp2_with fail
              refine (lives04_any _).mono ?_
              rintro e wz ⟨rfl, hrz⟩
              have HZ := Lib.hid (HB_4.out.trans (hrz.mono HB_4.out.size))
              clear hrz
              go_wp2
              go_ret
              exact ⟨rfl, HZ.out⟩
            · have KE' := Lib.hid ke
              clear ke KE
              go_wp2_with fail
              refine (KE'.out).mono ?_
              rintro e w1 ⟨rfl, hr⟩
              have RA_0 := Lib.hid (RA5.out.below hr)
              have RB_0 := Lib.hid (RB5.out.below hr)
              have XA_0 := Lib.hid (X1'.out.keep hr)
              have XB_0 := Lib.hid (X2.out.keep hr)
              have HB_0 := Lib.hid (HB17.out.trans (hr.mono HB17.out.size))
              clear hr KE' RA5 RB5 X1' X2 HB17
              obtain ⟨c0, c1, -, -, -⟩ := XA_0.out.open2
              have kh := KAA.out _ _ (HH1.out rfl).1 (HH1.out rfl).2.1 _ RA_0.out
              rw [(HH1.out rfl).2.2.1] at kh
              have KH := Lib.hid kh
              clear kh
              go_wp2_with fail
              refine (KH.out).mono ?_
              rintro e w2 ⟨rfl, hr⟩
              have RA_1 := Lib.hid (RA_0.out.below hr)
              have RB_1 := Lib.hid (RB_0.out.below hr)
              have XA_1 := Lib.hid (XA_0.out.keep hr)
              have XB_1 := Lib.hid (XB_0.out.keep hr)
              have HB_1 := Lib.hid (HB_0.out.trans (hr.mono HB_0.out.size))
              clear hr KH RA_0 RB_0 XA_0 XB_0 HB_0 c0 c1
              obtain ⟨c0, c1, -, -, -⟩ := XA_1.out.open2
              have kh := KBB.out _ _ (HH1.out rfl).1 (HH1.out rfl).2.1 _ RB_1.out
              rw [(HH1.out rfl).2.2.2] at kh
              have KH := Lib.hid kh
              clear kh
              go_wp2_with fail
              refine (KH.out).mono ?_
              rintro e w2 ⟨rfl, hr⟩
              have RA_2 := Lib.hid (RA_1.out.below hr)
              have RB_2 := Lib.hid (RB_1.out.below hr)
              have XA_2 := Lib.hid (XA_1.out.keep hr)
              have XB_2 := Lib.hid (XB_1.out.keep hr)
              have HB_2 := Lib.hid (HB_1.out.trans (hr.mono HB_1.out.size))
              clear hr KH RA_1 RB_1 XA_1 XB_1 HB_1 c0 c1
              go_wp2_with fail
              refine (lives04_any _).mono ?_
              rintro e wz ⟨rfl, hrz⟩
              have HZ := Lib.hid (HB_2.out.trans (hrz.mono HB_2.out.size))
              clear hrz
              go_wp2
              go_ret
              exact ⟨rfl, HZ.out⟩
          · cases dT
            · have KE' := Lib.hid ke
              clear ke KE
              go_wp2_with fail
              refine (KE'.out).mono ?_
              rintro e w1 ⟨rfl, hr⟩
              have RA_0 := Lib.hid (RA5.out.below hr)
              have RB_0 := Lib.hid (RB5.out.below hr)
              have XA_0 := Lib.hid (X1'.out.keep hr)
              have XB_0 := Lib.hid (X2.out.keep hr)
              have HB_0 := Lib.hid (HB17.out.trans (hr.mono HB17.out.size))
              clear hr KE' RA5 RB5 X1' X2 HB17
              obtain ⟨c0, c1, -, -, -⟩ := XB_0.out.open2
              have kh := KBB.out _ _ (HH2.out rfl).1 (HH2.out rfl).2.1 _ RB_0.out
              rw [(HH2.out rfl).2.2.1] at kh
              have KH := Lib.hid kh
              clear kh
              go_wp2_with fail
              refine (KH.out).mono ?_
              rintro e w2 ⟨rfl, hr⟩
              have RA_1 := Lib.hid (RA_0.out.below hr)
              have RB_1 := Lib.hid (RB_0.out.below hr)
              have XA_1 := Lib.hid (XA_0.out.keep hr)
              have XB_1 := Lib.hid (XB_0.out.keep hr)
              have HB_1 := Lib.hid (HB_0.out.trans (hr.mono HB_0.out.size))
              clear hr KH RA_0 RB_0 XA_0 XB_0 HB_0 c0 c1
              obtain ⟨c0, c1, -, -, -⟩ := XB_1.out.open2
              have kh := KAA.out _ _ (HH2.out rfl).1 (HH2.out rfl).2.1 _ RA_1.out
              rw [(HH2.out rfl).2.2.2] at kh
              have KH := Lib.hid kh
              clear kh
              go_wp2_with fail
              refine (KH.out).mono ?_
              rintro e w2 ⟨rfl, hr⟩
              have RA_2 := Lib.hid (RA_1.out.below hr)
              have RB_2 := Lib.hid (RB_1.out.below hr)
              have XA_2 := Lib.hid (XA_1.out.keep hr)
              have XB_2 := Lib.hid (XB_1.out.keep hr)
              have HB_2 := Lib.hid (HB_1.out.trans (hr.mono HB_1.out.size))
              clear hr KH RA_1 RB_1 XA_1 XB_1 HB_1 c0 c1
              go_wp2_with fail
              refine (lives04_any _).mono ?_
              rintro e wz ⟨rfl, hrz⟩
              have HZ := Lib.hid (HB_2.out.trans (hrz.mono HB_2.out.size))
              clear hrz
              go_wp2
              go_ret
              exact ⟨rfl, HZ.out⟩
            · have KE' := Lib.hid ke
              clear ke KE
              go_wp2_with fail
              refine (KE'.out).mono ?_
              rintro e w1 ⟨rfl, hr⟩
              have RA_0 := Lib.hid (RA5.out.below hr)
              have RB_0 := Lib.hid (RB5.out.below hr)
              have XA_0 := Lib.hid (X1'.out.keep hr)
              have XB_0 := Lib.hid (X2.out.keep hr)
              have HB_0 := Lib.hid (HB17.out.trans (hr.mono HB17.out.size))
              clear hr KE' RA5 RB5 X1' X2 HB17
              go_wp2_with fail
              refine (lives04_any _).mono ?_
              rintro e wz ⟨rfl, hrz⟩
              have HZ := Lib.hid (HB_0.out.trans (hrz.mono HB_0.out.size))
              clear hrz
              go_wp2
              go_ret
              exact ⟨rfl, HZ.out⟩

end Go.Proofs.Ytimbgjpjgbjnkaa
