/- Contracts of package span: Pick. -/
import Derived.Test.YtimbgjpjgbjnkaaPk3Pk4
import Derived.Test.YtimbgjpjgbjnkaaOpsEx
namespace Go.Proofs.Ytimbgjpjgbjnkaa
open Go.RowKit Go.Shelf

/-- What Pick leaves. -/
def PickOut (xs : List Iv) (w : World) (e : Ending) (w' : World) : Prop := Below w.heap.size w w' ∧
  ((validL xs ≠ 0 ∧ e = .returned (.tuple #[rv 0 0, .bool false, .int .i64 (validL xs)])) ∨ (validL xs = 0 ∧ xs = [] ∧ e = .returned (.tuple #[rv 0 0, .bool false, .int .i64 0])) ∨ (validL xs = 0 ∧ xs ≠ [] ∧ ∃ r, IsPick xs r ∧ e = .returned (.tuple #[rv r.1 r.2, .bool true, .int .i64 0])))

set_option maxHeartbeats 8000000 in
set_option maxRecDepth 100000 in
theorem pick_any (sv : Value) (xs : List Iv) (w : World) (h : REls RIv w sv xs) (hwf : ∀ x ∈ xs, x.wf) (hl : xs.length ≤ 100000) :
    Calls Try.prog 34 #[sv] w (PickOut xs w) := by
  obtain ⟨a, cap, rfl⟩ := h.shape
  have hS1 : Since w (w.alloc (.cells #[.int .i64 0, .int .i64 0] 25)) := Below.alloc (Below.refl _ _) (Nat.le_refl _) _
  have XR := Lib.hid (BoxL.made w #[.int .i64 0, .int .i64 0] 25)
  have kv := svalid_any _ xs _ (h.below hS1) hwf (by omega)
  have HB0 := Lib.hid hS1
  have HE := Lib.hid h
  generalize hn : xs.length = n at *
  have HN := Lib.hid hn
  clear h hwf hn hS1
  by_cases hv : validL xs = 0
  rotate_left 1
  · have hz : (validL xs != 0) = true := by simpa using hv
    have HP : Hid (∀ w', Below w.heap.size w w' → PickOut xs w (.returned (.tuple #[.agg #[.int .i64 0, .int .i64 0], .bool false, .int .i64 (validL xs)])) w') := Lib.hid fun w' hB => ⟨hB, .inl ⟨hv, rfl⟩⟩
    generalize validL xs = q at *
    have KV := Lib.hid kv
    clear kv hv
    go_enter Try.func34, Try.ntmps34
    go_wp2_with fail
    refine (KV.out).mono ?_
    rintro e w1 ⟨rfl, hr⟩
    have H1 := Lib.hid (Below.trans HB0.out (hr.mono (Below.size HB0.out)))
    have X1 := Lib.hid (XR.out.keep hr)
    clear hr
    obtain ⟨r0, r1, r2, r3, r4⟩ := X1.out.open2
    go_wp2
    with_reducible refine bodyPost_end2 (B := w.heap.size) (w := w) (z0 := .int .i64 0) (z1 := .int .i64 0) (v := .tuple #[.agg #[.int .i64 0, .int .i64 0], .bool false, .int .i64 q]) ?hX ?hB ?hN ?hd ?hr ?hQ
    case hQ =>
      intro W h
      exact HP.out _ h
    case hX => exact X1.out
    case hB => exact H1.out
    case hN => exact Nat.le_refl _
    case hd => rfl
    case hr =>
      intro W h
      obtain ⟨o0, o1, -, -, o2⟩ := h.open2
      clear h
      simp [results, Try.results34, go_sem, o0, o1]
  · rw [hv] at kv
    have HV := Lib.hid hv
    have HG := Lib.hid (validL_fit hv).1
    have KV := Lib.hid kv
    clear kv hv
    by_cases h0 : n = 0
    · subst h0
      have HP : Hid (∀ w', Below w.heap.size w w' → PickOut xs w (.returned (.tuple #[.agg #[.int .i64 0, .int .i64 0], .bool false, .int .i64 0])) w') := Lib.hid fun w' hB => ⟨hB, .inr (.inl ⟨HV.out, List.eq_nil_of_length_eq_zero HN.out, rfl⟩)⟩
      go_enter Try.func34, Try.ntmps34
      go_wp2_with fail
      refine (KV.out).mono ?_
      rintro e w1 ⟨rfl, hr⟩
      have H1 := Lib.hid (Below.trans HB0.out (hr.mono (Below.size HB0.out)))
      have X1 := Lib.hid (XR.out.keep hr)
      clear hr
      obtain ⟨r0, r1, r2, r3, r4⟩ := X1.out.open2
      go_wp2
      with_reducible refine bodyPost_end2 (B := w.heap.size) (w := w) (z0 := .int .i64 0) (z1 := .int .i64 0) (v := .tuple #[.agg #[.int .i64 0, .int .i64 0], .bool false, .int .i64 0]) ?hX ?hB ?hN ?hd ?hr ?hQ
      case hQ =>
        intro W h
        exact HP.out _ h
      case hX => exact X1.out
      case hB => exact H1.out
      case hN => exact Nat.le_refl _
      case hd => rfl
      case hr =>
        intro W h
        obtain ⟨o0, o1, -, -, o2⟩ := h.open2
        clear h
        simp [results, Try.results34, go_sem, o0, o1]
    · have hz0 : ((n : Int) == 0) = false := by rw [beq_eq_false_iff_ne]; omega
      have HNE : Hid (xs ≠ []) := Lib.hid fun hh => h0 (by rw [← HN.out, hh]; rfl)
      obtain ⟨b, rfl, -⟩ := HE.out.get (j := 0) (by omega)
      clear h0
      go_enter Try.func34, Try.ntmps34
      go_wp2_with fail
      refine (KV.out).mono ?_
      rintro e w1 ⟨rfl, hr⟩
      have H1 := Lib.hid (Below.trans HB0.out (hr.mono (Below.size HB0.out)))
      have X1 := Lib.hid (XR.out.keep hr)
      clear hr
      go_wp2_with fail
      go_loopw [6, 22] (fun v x wr => ∃ k : Nat, ∃ L ao no co, k ≤ n ∧ x = .int .i64 k ∧ v = .slice ao no co ∧ Hid (CandAll (xs.take k) L) ∧ L.length ≤ 3 * k ∧ Hid (ROwn RRat 25 (w.heap.size + 1) wr (.slice ao no co) L) ∧ Hid (Below (w.heap.size + 1) w1 wr)) (fun _ x _ => n - (intOf x).toNat)
      case atStart => exact ⟨0, [], none, 0, 0, by omega, rfl, rfl, CandAll.nil, by simp, ROwn.nil _ _ _ _, Below.refl _ _⟩
      case round =>
        obtain ⟨k, L, ao, no, co, hk, rfl, rfl, hC, hLl, hO, hB⟩ := hrel
        have HBW := Lib.hid (H1.out.trans (hB.out.mono (Nat.le_succ _)))
        by_cases hlt : k < n
        · have hki : (k : Int) < n := by omega
          obtain ⟨x, hx⟩ : ∃ x, xs[k]? = some x := ⟨xs[k]'(by rw [HN.out]; exact hlt), List.getElem?_eq_getElem _⟩
          obtain ⟨g0, g1, g2, g3, g4, g5, g6, g7, -⟩ := iv_at (HE.out.below HBW.out) hx
          have hgx := HG.out.1 k x hx
          have kc := Lib.hid fun W => cand_any x W hgx
          have hstep : Hid (∀ R, Qm.Btw x.from.n x.from.d x.to.n x.to.d R → CandAll (xs.take (k + 1)) (L ++ candL x.from x.to R) ∧ (candL x.from x.to R).length ≤ 3 ∧ 0 < (candL x.from x.to R).length) := Lib.hid fun R hR => ⟨by
            rw [List.take_add_one, hx]
            exact hC.out.snoc hgx hR, by
            unfold candL
            split <;> split <;> split <;> simp, List.length_pos_iff.2 (cand_ne hgx hR)⟩
          have hO1 := Lib.hid (hO.out.below ((Below.refl _ wr).alloc (Nat.le_refl _) (.cells #[.int .i64 x.a, .int .i64 x.b, .int .i64 x.c, .int .i64 x.d, .bool x.p, .bool x.q, .bool x.r, .bool x.s] 27)))
          have hz0' : w.heap.size + 1 ≤ wr.heap.size := by have h1 := hB.out.size; have h2 := X1.out.1; omega
          have hB1 := Lib.hid (hB.out.alloc hz0' (.cells #[.int .i64 x.a, .int .i64 x.b, .int .i64 x.c, .int .i64 x.d, .bool x.p, .bool x.q, .bool x.r, .bool x.s] 27))
          clear hx hgx hO hB HBW
          generalize x.from = F at *
          generalize x.to = T at *
          obtain ⟨xa, xb, xc, xd, xp, xq, xr, xs'⟩ := x
          unfold Iv.v at kc
          simp only at *
          go_wp2_with fail
          refine (kc.out _).mono ?_
          rintro e w2 ⟨R, hR, ac, nc, cc, rfl, hnc, hOc, hr⟩
          have hO2 := Lib.hid (hO1.out.below hr.out)
          have hB2 := Lib.hid (hB1.out.trans (hr.out.mono (by simp; omega)))
          obtain ⟨hs1, hs2, hs3⟩ := hstep.out R hR
          have HS := Lib.hid hs1
          have hncl := hnc.out
          have hz2 : w.heap.size + 1 ≤ w2.heap.size := by have h1 := hB2.out.size; have h2 := X1.out.1; omega
          obtain ⟨bc, rfl, -⟩ := hOc.els.get (j := 0) (by omega)
          have hcell := hOc.els.flat
          generalize candL F T R = CL at *
          have HCELL := Lib.hid hcell
          have HNC := Lib.hid hncl
          have hL1 : L.length + nc ≤ 1000000000 := by omega
          have hL2 : L.length + nc ≤ 3 * (k + 1) := by omega
          clear hr hR hs1 hcell hncl hOc hnc
          go_wp2_with (at_builtin; refine push_rows rfl (.tmp 26) (.tmp 28) 36 rfl RRat 25 16 _ Try.underlying36 Try.infoRat rfl (by decide) (w.heap.size + 1) (.slice ao no co) L CL rfl bc 0 nc cc HNC.out rfl hO2.out hz2 hL1 HCELL.out ?_; intro a6 n6 c6 w6 hn6 hO6 hB6)
          have hB7 := Lib.hid (hB2.out.trans hB6.out)
          clear hB2 hB6
          go_wp2
          go_roundw
          case rel => exact ⟨k + 1, L ++ CL, a6, n6, c6, by omega, by go_num, rfl, HS, by rw [List.length_append, ← HNC.out]; exact hL2, hO6, hB7⟩
          case measure => simp [intOf]; omega
        · have hki : (n : Int) ≤ (k : Int) := by omega
          have hfull := hC.out
          rw [List.take_of_length_le (by rw [HN.out]; omega)] at hfull
          have hne := hfull.2.2 HNE.out
          obtain ⟨p0, L', rfl⟩ : ∃ p0 L', L = p0 :: L' := by
            cases L with
            | nil => exact absurd rfl hne
            | cons p0 L' => exact ⟨p0, L', rfl⟩
          have hpk := hfull.pick
          have hln := hO.out.els.len
          obtain ⟨bo, rfl, -⟩ := hO.out.els.get (j := 0) (by rw [hln]; simp)
          have km := Lib.hid (min_any bo no co p0 L' wr hO.out.els (fun p hp => by obtain ⟨y, _, hy⟩ := hfull.1 p hp; exact hy.1) (by simp at hLl; omega))
          have HP : Hid (∀ w', Below w.heap.size w w' → PickOut xs w (.returned (.tuple #[.agg #[.int .i64 (minP p0 L').1, .int .i64 (minP p0 L').2], .bool true, .int .i64 0])) w') := Lib.hid fun w' hB => ⟨hB, .inr (.inr ⟨HV.out, HNE.out, _, hpk, rfl⟩)⟩
          have XW := Lib.hid (X1.out.keepB hB.out (Nat.lt_succ_self _))
          clear hfull hne hpk hln hC hO hB hLl
          generalize (minP p0 L') = M at *
          obtain ⟨mn, md⟩ := M
          unfold rv at km
          simp only at *
          go_wp2_with fail
          refine (km.out).mono ?_
          rintro e w3 ⟨rfl, hr⟩
          have H3 := Lib.hid (HBW.out.trans (hr.mono HBW.out.size))
          have X3 := Lib.hid (XW.out.keep hr)
          clear hr
          obtain ⟨r0, r1, r2, r3, r4⟩ := X3.out.open2
          go_wp2
          with_reducible refine bodyPost_end2 (B := w.heap.size) (w := w) (z0 := .int .i64 0) (z1 := .int .i64 0) (v := .tuple #[.agg #[.int .i64 mn, .int .i64 md], .bool true, .int .i64 0]) ?hX ?hB ?hN ?hd ?hr ?hQ
          case hQ =>
            intro W h
            exact HP.out _ h
          case hX => exact X3.out
          case hB => exact H3.out
          case hN => exact Nat.le_refl _
          case hd => rfl
          case hr =>
            intro W h
            obtain ⟨o0, o1, -, -, o2⟩ := h.open2
            clear h
            simp [results, Try.results34, go_sem, o0, o1]

end Go.Proofs.Ytimbgjpjgbjnkaa
