import Derived.Test.YtimbgjpjgbjnkaaGa
import Derived.Test.YtimbgjpjgbjnkaaSp3Sp4
import Derived.BigQuiet
import Derived.Deep.QuietTactic
import Derived.Deep.RegionHeld3
/- Contracts of the reference of span: apart, in. -/
namespace Go.Proofs.Ytimbgjpjgbjnkaa
open Go.RowKit Go.Shelf

theorem good_lo {x : Iv} (h : x.good = true) : (x.r = true ∧ x.from = lowC) ∨ (x.r = false ∧ SmallR x.a x.b ∧ x.from = ⟨x.a, x.b, x.p⟩) := by
  unfold Iv.good at h
  simp only [Bool.and_eq_true, decide_eq_true_eq] at h
  rcases end_ok h.1.1 with ⟨e, _⟩ | ⟨e, hs⟩
  · exact .inl ⟨e, by unfold Iv.from; rw [e]; rfl⟩
  · exact .inr ⟨e, hs, by unfold Iv.from; rw [e]; rfl⟩

theorem good_hi {x : Iv} (h : x.good = true) : (x.s = true ∧ x.to = highC) ∨ (x.s = false ∧ SmallR x.c x.d ∧ x.to = ⟨x.c, x.d, !x.q⟩) := by
  unfold Iv.good at h
  simp only [Bool.and_eq_true, decide_eq_true_eq] at h
  rcases end_ok h.1.2 with ⟨e, _⟩ | ⟨e, hs⟩
  · exact .inl ⟨e, by unfold Iv.to; rw [e]; rfl⟩
  · exact .inr ⟨e, hs, by unfold Iv.to; rw [e]; rfl⟩

/-- What apart says, as it says it. -/
def apartB (x y : Iv) : Bool := if x.s = true ∨ y.r = true then false else if x.c = y.a ∧ x.d = y.b then x.q && y.p else decide (x.c * y.b < y.a * x.d)

theorem apart_is {x y : Iv} (hx : x.good = true) (hy : y.good = true) : decide (x.to.key < y.from.key) = apartB x y := by
  unfold apartB
  rcases good_hi hx with ⟨e1, e2⟩ | ⟨e1, h1, e2⟩
  · rw [if_pos (.inl e1), e2]
    apply decide_eq_false
    rcases good_lo hy with ⟨_, f2⟩ | ⟨_, g1, f2⟩
    · rw [f2]; have := low_lt_high; omega
    · rw [f2]; have := (small_keys y.p g1).2; omega
  · rcases good_lo hy with ⟨f1, f2⟩ | ⟨f1, g1, f2⟩
    · rw [if_pos (.inr f1), e2, f2]
      apply decide_eq_false
      have := (small_keys (!x.q) h1).1
      omega
    · rw [if_neg (by simp [e1, f1]), e2, f2]
      have l1 := kR_lt (n := x.c) (n' := y.a) h1.1.1 h1.1.2.1 g1.1.1 g1.1.2.1
      have l2 := kR_eq h1.1 g1.1
      unfold Cut.key
      simp only
      generalize x.q = q
      generalize y.p = p
      by_cases he : x.c = y.a ∧ x.d = y.b
      · rw [if_pos he, l2.2 he]
        cases p <;> cases q <;> simp <;> omega
      · rw [if_neg he]
        have hne := mt l2.1 he
        by_cases hl : x.c * y.b < y.a * x.d
        · rw [decide_eq_true hl]
          have := l1.2 hl
          apply decide_eq_true
          cases p <;> cases q <;> simp <;> omega
        · rw [decide_eq_false hl]
          have := mt l1.1 hl
          apply decide_eq_false
          cases p <;> cases q <;> simp <;> omega

set_option maxHeartbeats 8000000 in
set_option maxRecDepth 100000 in
theorem apart_any (x y : Iv) (w : World) (hx : x.good = true) (hy : y.good = true) :
    Calls Try.prog 51 #[x.v, y.v] w fun e w' => e = .returned (.bool (decide (x.to.key < y.from.key))) ∧ Below w.heap.size w w' := by
  rw [apart_is hx hy]
  have k1 := fun (h1 : x.s = false) (h2 : y.r = false) w => less_any x.c x.d y.a y.b w (by rcases good_hi hx with ⟨e, _⟩ | ⟨_, h, _⟩; (· rw [h1] at e; cases e); (· exact h.1)) (by rcases good_lo hy with ⟨e, _⟩ | ⟨_, h, _⟩; (· rw [h2] at e; cases e); (· exact h.1))
  clear hx hy
  unfold apartB
  obtain ⟨a, b, c, d, p, q, r, s⟩ := x
  obtain ⟨a', b', c', d', p', q', r', s'⟩ := y
  unfold Iv.v rv at *
  simp only at *
  generalize decide (c * b' < a' * d) = L at *
  have HB0 := Lib.hid (((Below.refl w.heap.size w).alloc (Nat.le_refl _) (.cells #[.int .i64 a, .int .i64 b, .int .i64 c, .int .i64 d, .bool p, .bool q, .bool r, .bool s] 27)).alloc (by simp) (.cells #[.int .i64 a', .int .i64 b', .int .i64 c', .int .i64 d', .bool p', .bool q', .bool r', .bool s'] 27))
  cases s
  case true =>
    rw [if_pos (.inl rfl)]
    clear k1
    go_enter Try.func51, Try.ntmps51
    go_wp2
    go_ret
    exact ⟨rfl, HB0.out⟩
  case false =>
    cases r'
    case true =>
      rw [if_pos (.inr rfl)]
      clear k1
      go_enter Try.func51, Try.ntmps51
      go_wp2
      go_ret
      exact ⟨rfl, HB0.out⟩
    case false =>
      rw [if_neg (by simp)]
      have K1 := Lib.hid (k1 rfl rfl)
      clear k1
      rcases pair_three c d a' b' with ⟨rfl, rfl⟩ | ⟨h1, g1⟩ | ⟨rfl, h1, g1⟩
      · rw [if_pos ⟨rfl, rfl⟩]
        cases q <;> cases p'
        all_goals
          go_enter Try.func51, Try.ntmps51
          go_wp2
          go_ret
          exact ⟨rfl, HB0.out⟩
      all_goals
        rw [if_neg g1]
        clear g1
        go_enter Try.func51, Try.ntmps51
        go_wp2_with fail
        refine (K1.out _).mono ?_
        rintro e w3 ⟨rfl, hB⟩
        have H3 := Lib.hid (HB0.out.trans (hB.mono HB0.out.size))
        clear hB
        go_wp2
        go_ret
        exact ⟨rfl, H3.out⟩

/-- What in says, as it says it. -/
def inLo (x : Iv) (n d : Int) : Bool := if x.r = true then false else if decide (n * x.b < x.a * d) = true then true else if n = x.a ∧ d = x.b then x.p else false
def inHi (x : Iv) (n d : Int) : Bool := if x.s = true then false else if decide (x.c * d < n * x.d) = true then true else if n = x.c ∧ d = x.d then x.q else false

theorem in_is {x : Iv} {n d : Int} (hx : x.good = true) (ho : Qm.Ok n d) : hasI n d x = (!inLo x n d && !inHi x n d) := by
  unfold hasI inLo inHi
  rw [hx, Bool.true_and]
  have hlow := (kR_lt (n := n) (n' := -1099511627776) (d := d) (d' := 1) ho.1 ho.2.1 (by decide) (by decide))
  have hhigh := (kR_lt (n := 1099511627776) (n' := n) (d := 1) (d' := d) (by decide) (by decide) ho.1 ho.2.1)
  have hn1 := ho.2.2.1
  have hn2 := ho.2.2.2.1
  have hd := ho.1
  congr 1
  · rcases good_lo hx with ⟨e1, e2⟩ | ⟨e1, h1, e2⟩
    · rw [if_pos e1, e2]
      apply decide_eq_true
      have : ¬ kR n d < kR (-1099511627776) 1 := mt hlow.1 (by omega)
      show 2 * kR (-1099511627776) 1 + 0 ≤ _
      omega
    · rw [if_neg (by simp [e1]), e2]
      have l1 := kR_lt (n := n) (n' := x.a) ho.1 ho.2.1 h1.1.1 h1.1.2.1
      have l2 := kR_eq ho h1.1
      unfold Cut.key
      simp only
      generalize x.p = p
      by_cases hl : n * x.b < x.a * d
      · rw [decide_eq_true hl, if_pos (show (true : Bool) = true from rfl)]
        have := l1.2 hl
        apply decide_eq_false
        cases p <;> simp <;> omega
      · rw [decide_eq_false hl, if_neg (show ¬ (false : Bool) = true by simp)]
        have := mt l1.1 hl
        by_cases he : n = x.a ∧ d = x.b
        · rw [if_pos he]
          have := l2.2 he
          cases p
          · apply decide_eq_true; simp; omega
          · apply decide_eq_false; simp; omega
        · rw [if_neg he]
          have := mt l2.1 he
          apply decide_eq_true
          cases p <;> simp <;> omega
  · rcases good_hi hx with ⟨e1, e2⟩ | ⟨e1, h1, e2⟩
    · rw [if_pos e1, e2]
      apply decide_eq_true
      have : ¬ kR 1099511627776 1 < kR n d := mt hhigh.1 (by omega)
      show _ ≤ 2 * kR 1099511627776 1 + 1
      omega
    · rw [if_neg (by simp [e1]), e2]
      have l1 := kR_lt (n := x.c) (n' := n) h1.1.1 h1.1.2.1 ho.1 ho.2.1
      have l2 := kR_eq ho h1.1
      unfold Cut.key
      simp only
      generalize x.q = p
      by_cases hl : x.c * d < n * x.d
      · rw [decide_eq_true hl, if_pos (show (true : Bool) = true from rfl)]
        have := l1.2 hl
        apply decide_eq_false
        cases p <;> simp <;> omega
      · rw [decide_eq_false hl, if_neg (show ¬ (false : Bool) = true by simp)]
        have := mt l1.1 hl
        by_cases he : n = x.c ∧ d = x.d
        · rw [if_pos he]
          have := l2.2 he
          cases p
          · apply decide_eq_true; simp; omega
          · apply decide_eq_false; simp; omega
        · rw [if_neg he]
          have := mt l2.1 he
          apply decide_eq_true
          cases p <;> simp <;> omega

theorem end_in (n d a b : Int) (r p L : Bool) : (r = true ∧ True) ∨ (r = false ∧ ((L = true ∧ True) ∨ (L = false ∧ n = a ∧ d = b ∧ p = true ∧ True) ∨ (L = false ∧ n = a ∧ d = b ∧ p = false ∧ True) ∨ (L = false ∧ (n == a) = false ∧ ¬ (n = a ∧ d = b)) ∨ (L = false ∧ n = a ∧ (d == b) = false ∧ ¬ d = b))) := by
  cases r
  · cases L
    · rcases pair_three n d a b with ⟨h1, h2⟩ | ⟨h1, h2⟩ | ⟨h1, h2, h3⟩
      · cases p
        · exact .inr ⟨rfl, .inr (.inr (.inl ⟨rfl, h1, h2, rfl, trivial⟩))⟩
        · exact .inr ⟨rfl, .inr (.inl ⟨rfl, h1, h2, rfl, trivial⟩)⟩
      · exact .inr ⟨rfl, .inr (.inr (.inr (.inl ⟨rfl, h1, h2⟩)))⟩
      · exact .inr ⟨rfl, .inr (.inr (.inr (.inr ⟨rfl, h1, h2, by simpa using h2⟩)))⟩
    · exact .inr ⟨rfl, .inl ⟨rfl, trivial⟩⟩
  · exact .inl ⟨rfl, trivial⟩

set_option maxHeartbeats 16000000 in
set_option maxRecDepth 100000 in
theorem in_any (x : Iv) (n d : Int) (w : World) (hx : x.good = true) (ho : Qm.Ok n d) :
    Calls Try.prog 57 #[x.v, rv n d] w fun e w' => e = .returned (.bool (hasI n d x)) ∧ Below w.heap.size w w' := by
  rw [in_is hx ho]
  have k1 := fun (h1 : x.r = false) w => less_any n d x.a x.b w ho (by rcases good_lo hx with ⟨e, _⟩ | ⟨_, h, _⟩; (· rw [h1] at e; cases e); (· exact h.1))
  have k2 := fun (h1 : x.s = false) w => less_any x.c x.d n d w (by rcases good_hi hx with ⟨e, _⟩ | ⟨_, h, _⟩; (· rw [h1] at e; cases e); (· exact h.1)) ho
  clear hx ho
  generalize hG : (!inLo x n d && !inHi x n d) = G
  unfold inLo inHi at hG
  obtain ⟨a, b, c, d', p, q, r, s⟩ := x
  unfold Iv.v rv at *
  simp only at *
  generalize decide (n * b < a * d) = L1 at *
  generalize decide (c * d < n * d') = L2 at *
  have HB0 := Lib.hid (((Below.refl w.heap.size w).alloc (Nat.le_refl _) (.cells #[.int .i64 a, .int .i64 b, .int .i64 c, .int .i64 d', .bool p, .bool q, .bool r, .bool s] 27)).alloc (by simp) (.cells #[.int .i64 n, .int .i64 d] 25))
  have XA := Lib.hid ((cell_new8 w (.int .i64 a) (.int .i64 b) (.int .i64 c) (.int .i64 d') (.bool p) (.bool q) (.bool r) (.bool s) 27).under (.cells #[.int .i64 n, .int .i64 d] 25))
  have xb := BoxL.made (w.alloc (.cells #[.int .i64 a, .int .i64 b, .int .i64 c, .int .i64 d', .bool p, .bool q, .bool r, .bool s] 27)) #[.int .i64 n, .int .i64 d] 25
  rw [size_alloc] at xb
  have XB := Lib.hid xb
  clear xb
  rcases end_in n d a b r p L1 with ⟨rfl, g1⟩ | ⟨rfl, ⟨rfl, g1⟩ | ⟨rfl, rfl, rfl, rfl, g1⟩ | ⟨rfl, rfl, rfl, rfl, g1⟩ | ⟨rfl, h1, g1⟩ | ⟨rfl, rfl, h1, g1⟩⟩
  · clear k1
    rcases end_in n d c d' s q L2 with ⟨rfl, g2⟩ | ⟨rfl, ⟨rfl, g2⟩ | ⟨rfl, rfl, rfl, rfl, g2⟩ | ⟨rfl, rfl, rfl, rfl, g2⟩ | ⟨rfl, h2, g2⟩ | ⟨rfl, rfl, h2, g2⟩⟩
    · clear k2
      simp at hG
      subst hG
      go_enter Try.func57, Try.ntmps57
      go_wp2
      go_ret
      exact ⟨rfl, HB0.out⟩
    all_goals
      have K2 := Lib.hid (k2 rfl)
      clear k2
      simp [g2] at hG
      subst hG
      clear g1 g2
      go_enter Try.func57, Try.ntmps57
      go_wp2_with fail
      (with_reducible refine (K2.out _).mono ?_)
      rintro e w2 ⟨rfl, hB⟩
      have H2 := Lib.hid (HB0.out.trans (hB.mono HB0.out.size))
      obtain ⟨a0, a1, a2, a3, a4, a5, a6, a7, a8⟩ := (XA.out.keep hB).open8
      obtain ⟨b0, b1, -, -, b2⟩ := (XB.out.keep hB).open2
      clear hB
      go_wp2
      go_ret
      exact ⟨rfl, H2.out⟩
  all_goals
    have K1 := Lib.hid (k1 rfl)
    clear k1
    rcases end_in n d c d' s q L2 with ⟨rfl, g2⟩ | ⟨rfl, ⟨rfl, g2⟩ | ⟨rfl, rfl, rfl, rfl, g2⟩ | ⟨rfl, rfl, rfl, rfl, g2⟩ | ⟨rfl, h2, g2⟩ | ⟨rfl, rfl, h2, g2⟩⟩
    · clear k2
      simp [g1] at hG
      subst hG
      clear g1 g2
      go_enter Try.func57, Try.ntmps57
      go_wp2_with fail
      (with_reducible refine (K1.out _).mono ?_)
      rintro e w2 ⟨rfl, hB⟩
      have H2 := Lib.hid (HB0.out.trans (hB.mono HB0.out.size))
      obtain ⟨a0, a1, a2, a3, a4, a5, a6, a7, a8⟩ := (XA.out.keep hB).open8
      obtain ⟨b0, b1, -, -, b2⟩ := (XB.out.keep hB).open2
      clear hB
      go_wp2
      go_ret
      exact ⟨rfl, H2.out⟩
    all_goals
      have K2 := Lib.hid (k2 rfl)
      clear k2
      simp [g1, g2] at hG
      subst hG
      clear g1 g2
      go_enter Try.func57, Try.ntmps57
      go_wp2_with fail
      (with_reducible refine (K1.out _).mono ?_)
      rintro e w1 ⟨rfl, hB⟩
      have H1 := Lib.hid (HB0.out.trans (hB.mono HB0.out.size))
      have XA1 := Lib.hid (XA.out.keep hB)
      have XB1 := Lib.hid (XB.out.keep hB)
      obtain ⟨a0, a1, a2, a3, a4, a5, a6, a7, a8⟩ := XA1.out.open8
      obtain ⟨b0, b1, -, -, b2⟩ := XB1.out.open2
      clear hB
      go_wp2_with fail
      (with_reducible refine (K2.out _).mono ?_)
      rintro e w2 ⟨rfl, hB⟩
      have H2 := Lib.hid (H1.out.trans (hB.mono H1.out.size))
      clear a0 a1 a2 a3 a4 a5 a6 a7 a8 b0 b1 b2
      obtain ⟨a0, a1, a2, a3, a4, a5, a6, a7, a8⟩ := (XA1.out.keep hB).open8
      obtain ⟨b0, b1, -, -, b2⟩ := (XB1.out.keep hB).open2
      clear hB
      go_wp2
      go_ret
      exact ⟨rfl, H2.out⟩

end Go.Proofs.Ytimbgjpjgbjnkaa

/- Contracts of the reference of span: Valid, Has, Equal. -/
namespace Go.Proofs.Ytimbgjpjgbjnkaa
open Go.RowKit Go.Shelf

set_option maxHeartbeats 8000000 in
set_option maxRecDepth 100000 in
theorem gvalid_any (sv : Value) (xs : List Iv) (w : World) (h : REls RIv w sv xs) (hl : xs.length ≤ 1000000) :
    Calls Try.prog 20 #[sv] w fun e w' => e = .returned (.int .i64 (validL xs)) ∧ Below w.heap.size w w' := by
  obtain ⟨a, cap, rfl⟩ := h.shape
  have HE := Lib.hid h
  generalize hn : xs.length = n at *
  have HN := Lib.hid hn
  clear h hn
  go_enter Try.func20, Try.ntmps20
  go_wp2
  go_loopw [3] (fun x wr => ∃ k : Nat, k ≤ n ∧ x = .int .i64 k ∧ Hid (Fit (xs.take k)) ∧ Hid (Below w.heap.size w wr)) (fun x _ => n - (intOf x).toNat)
  case atStart => exact ⟨0, by omega, rfl, Fit.nil, Below.refl _ _⟩
  case round =>
    obtain ⟨k, hk, rfl, hF, hB⟩ := hrel
    by_cases hlt : k < n
    · have hki : (k : Int) < n := by omega
      obtain ⟨x, hx⟩ : ∃ x, xs[k]? = some x := ⟨xs[k]'(by rw [HN.out]; exact hlt), List.getElem?_eq_getElem _⟩
      obtain ⟨b, rfl, -⟩ := HE.out.get hlt
      have HEr := Lib.hid (HE.out.below hB.out)
      obtain ⟨g0, g1, g2, g3, g4, g5, g6, g7, hb⟩ := iv_at HEr.out hx
      have k1 := Lib.hid fun W => good_any x W
      have HX := Lib.hid hx
      clear hx
      cases hG : x.good
      case false =>
        have hE := Lib.hid (show validL xs = 1 from by unfold validL; rw [if_neg (fun hf => by have := hf.1 k _ HX.out; rw [hG] at this; cases this)])
        rw [hG] at k1
        clear hG
        obtain ⟨xa, xb, xc, xd, xp, xq, xr, xs'⟩ := x
        unfold Iv.v at *
        simp only at *
        go_wp2_with fail
        refine (k1.out _).mono ?_
        rintro e w1 ⟨rfl, hB1⟩
        have H1 := Lib.hid (hB.out.trans (hB1.mono hB.out.size))
        clear hB1 g0 g1 g2 g3 g4 g5 g6 g7
        go_wp2_with fail
        go_quiet (fail)
        go_wp2
        go_ret
        exact ⟨ret_int hE.out.symm, below_drewN H1.out _⟩
      case true =>
        have HG := Lib.hid hG
        rw [hG] at k1
        clear hG
        by_cases hk0 : k = 0
        · have hk0' : (k : Int) ≤ 0 := by omega
          have hd : decide (0 < (k : Int)) = false := decide_eq_false (by omega)
          have hd2 : decide (0 < k) = false := decide_eq_false (by omega)
          have HF2 : Hid (Fit (xs.take (k + 1))) := Fit.snoc hF.out HX.out HG.out (fun y h0 _ => by omega)
          have HK0 := Lib.hid hk0
          clear hk0
          obtain ⟨xa, xb, xc, xd, xp, xq, xr, xs'⟩ := x
          unfold Iv.v at *
          simp only at *
          go_wp2_with fail
          refine (k1.out _).mono ?_
          rintro e w1 ⟨rfl, hB1⟩
          have H1 := Lib.hid (hB.out.trans (hB1.mono hB.out.size))
          clear hB1 g0 g1 g2 g3 g4 g5 g6 g7
          go_wp2_with fail
          go_quiet (fail)
          go_wp2
          go_roundw
          case rel => exact ⟨k + 1, by omega, by go_num, HF2, below_drewN H1.out _⟩
          case measure => simp [intOf]; omega
        · have hk1 : 0 < (k : Int) := by omega
          have hk1' : 0 < k := by omega
          have hd2 : decide (0 < k) = true := decide_eq_true (by omega)
          obtain ⟨y, hy⟩ : ∃ y, xs[k - 1]? = some y := ⟨xs[k - 1]'(by rw [HN.out]; omega), List.getElem?_eq_getElem _⟩
          have hgy : y.good = true := hF.out.1 (k - 1) y (by rw [List.getElem?_take, if_pos (by omega)]; exact hy)
          obtain ⟨p0, p1, p2, p3, p4, p5, p6, p7, pb⟩ := iv_at HEr.out hy
          have k2 := fun W => apart_any y x W hgy HG.out
          have HY := Lib.hid hy
          have hT : Hid (decide (y.to.key < x.from.key) = true → Fit (xs.take (k + 1))) := fun h => Fit.snoc hF.out HX.out HG.out (fun z h0 hz => by
            rw [HY.out] at hz
            cases hz
            exact of_decide_eq_true h)
          have hE : Hid (decide (y.to.key < x.from.key) = false → validL xs = 1) := fun h => by
            unfold validL
            rw [if_neg (fun hf => by
              have := hf.2 (k - 1) y x HY.out (by rw [show k - 1 + 1 = k by omega]; exact HX.out)
              exact of_decide_eq_false h this)]
          clear hgy hy
          generalize decide (y.to.key < x.from.key) = G2 at *
          have K2 := Lib.hid k2
          have HK0 := Lib.hid hk0
          clear k2 hk0
          obtain ⟨xa, xb, xc, xd, xp, xq, xr, xs'⟩ := x
          obtain ⟨ya, yb, yc, yd, yp, yq, yr, ys'⟩ := y
          unfold Iv.v at *
          simp only at *
          go_wp2_with fail
          refine (k1.out _).mono ?_
          rintro e w1 ⟨rfl, hB1⟩
          have H1 := Lib.hid (hB.out.trans (hB1.mono hB.out.size))
          have hS1 : Since wr w1 := hB1
          have q0 := Since.cell hS1 g0
          have q1 := Since.cell hS1 g1
          have q2 := Since.cell hS1 g2
          have q3 := Since.cell hS1 g3
          have q4 := Since.cell hS1 g4
          have q5 := Since.cell hS1 g5
          have q6 := Since.cell hS1 g6
          have q7 := Since.cell hS1 g7
          have r0 := Since.cell hS1 p0
          have r1 := Since.cell hS1 p1
          have r2 := Since.cell hS1 p2
          have r3 := Since.cell hS1 p3
          have r4 := Since.cell hS1 p4
          have r5 := Since.cell hS1 p5
          have r6 := Since.cell hS1 p6
          have r7 := Since.cell hS1 p7
          clear hB1 hS1 g0 g1 g2 g3 g4 g5 g6 g7 p0 p1 p2 p3 p4 p5 p6 p7
          have hS0 : Since w1 w1 := Below.refl _ _
          have hSd : Since w1 w1.drew := Below.drew hS0
          have n1 : (k : Int) - 1 < n := by omega
          have n2 : 0 ≤ (k : Int) - 1 := by omega
          have n5 : (1 : Int) ≤ (k : Int) := by omega
          have n6 : (k : Int) ≤ (n : Int) := by omega
          have n7 : k ≤ n := by omega
          have n8 : 1 ≤ k := by omega
          have n3 : ((k : Int) - 1).toNat = k - 1 := by omega
          have n4 : IntKind.i64.wrap ((k : Int) - 1) = (k : Int) - 1 := IntWalk.i64_in _ (by omega)
          go_wp2_with fail
          go_region_held3 (fun w' => w'.cell? ⟨b, k * 8, none⟩ = some (.int .i64 xa) ∧ w'.cell? ⟨b, k * 8 + 1, none⟩ = some (.int .i64 xb) ∧ w'.cell? ⟨b, k * 8 + 2, none⟩ = some (.int .i64 xc) ∧ w'.cell? ⟨b, k * 8 + 3, none⟩ = some (.int .i64 xd)
              ∧ w'.cell? ⟨b, k * 8 + 4, none⟩ = some (.bool xp) ∧ w'.cell? ⟨b, k * 8 + 5, none⟩ = some (.bool xq) ∧ w'.cell? ⟨b, k * 8 + 6, none⟩ = some (.bool xr) ∧ w'.cell? ⟨b, k * 8 + 7, none⟩ = some (.bool xs')
              ∧ w'.cell? ⟨b, (k - 1) * 8, none⟩ = some (.int .i64 ya) ∧ w'.cell? ⟨b, (k - 1) * 8 + 1, none⟩ = some (.int .i64 yb) ∧ w'.cell? ⟨b, (k - 1) * 8 + 2, none⟩ = some (.int .i64 yc) ∧ w'.cell? ⟨b, (k - 1) * 8 + 3, none⟩ = some (.int .i64 yd)
              ∧ w'.cell? ⟨b, (k - 1) * 8 + 4, none⟩ = some (.bool yp) ∧ w'.cell? ⟨b, (k - 1) * 8 + 5, none⟩ = some (.bool yq) ∧ w'.cell? ⟨b, (k - 1) * 8 + 6, none⟩ = some (.bool yr) ∧ w'.cell? ⟨b, (k - 1) * 8 + 7, none⟩ = some (.bool ys') ∧ Since w1 w')
            (first | exact ⟨q0, q1, q2, q3, q4, q5, q6, q7, r0, r1, r2, r3, r4, r5, r6, r7, hSd⟩ | exact ⟨Since.cell hB2 q0, Since.cell hB2 q1, Since.cell hB2 q2, Since.cell hB2 q3, Since.cell hB2 q4, Since.cell hB2 q5, Since.cell hB2 q6, Since.cell hB2 q7, Since.cell hB2 r0, Since.cell hB2 r1, Since.cell hB2 r2, Since.cell hB2 r3, Since.cell hB2 r4, Since.cell hB2 r5, Since.cell hB2 r6, Since.cell hB2 r7, hB2⟩)
            ((go_at_call 51; refine (K2.out _).mono ?_; rintro e w' ⟨rfl, hr⟩; have hB2 := Since.step hSd hr; clear hr))
          have HBB := Lib.hid (H1.out.trans (Below.mono hB2 H1.out.size))
          clear hB2 hS0 hSd q0 q1 q2 q3 q4 q5 q6 q7 r0 r1 r2 r3 r4 r5 r6 r7 n1 n2 n3 n4 n5 n6 n7 n8
          cases G2
          case true =>
            have HF2 := Lib.hid (hT.out rfl)
            go_wp2
            go_roundw
            case rel => exact ⟨k + 1, by omega, by go_num, HF2, HBB⟩
            case measure => simp [intOf]; omega
          case false =>
            have HE2 := Lib.hid (hE.out rfl)
            go_wp2
            go_ret
            exact ⟨ret_int HE2.out.symm, HBB.out⟩
    · have hki : (n : Int) ≤ (k : Int) := by omega
      have hfit : Fit xs := by
        have := hF.out
        rwa [List.take_of_length_le (by rw [HN.out]; omega)] at this
      have hnn := HN.out
      by_cases h32 : 32 < n
      · have hE := Lib.hid (show validL xs = 4 from by unfold validL; rw [if_pos hfit, if_pos (by omega)])
        have h32' : (32 : Int) < (n : Int) := by omega
        clear hfit hnn
        go_wp2
        go_ret
        exact ⟨ret_int hE.out.symm, hB.out⟩
      · have hE := Lib.hid (show validL xs = 0 from by unfold validL; rw [if_pos hfit, if_neg (by omega)])
        have h32' : (n : Int) ≤ 32 := by omega
        clear hfit hnn
        go_wp2
        go_ret
        exact ⟨ret_int hE.out.symm, hB.out⟩

end Go.Proofs.Ytimbgjpjgbjnkaa

