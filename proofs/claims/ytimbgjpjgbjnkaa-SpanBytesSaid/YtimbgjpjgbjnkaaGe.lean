/- Contracts: Equal of the reference of span, and of the program's slices.Equal. -/
import Derived.Test.YtimbgjpjgbjnkaaGbGc
namespace Go.Proofs.Ytimbgjpjgbjnkaa
open Go.RowKit Go.Shelf

theorem ne_snoc {xs ys : List Iv} {k : Nat} {x y : Iv} (h : xs.take k = ys.take k) (hx : xs[k]? = some x) (hy : ys[k]? = some y) (e : x = y) : xs.take (k + 1) = ys.take (k + 1) := by
  rw [List.take_add_one, List.take_add_one, h, hx, hy, e]

theorem iv_ne {x y : Iv} (h : x ≠ y) : (x.a == y.a) = false ∨ (x.a = y.a ∧ (x.b == y.b) = false) ∨ (x.a = y.a ∧ x.b = y.b ∧ (x.c == y.c) = false) ∨ (x.a = y.a ∧ x.b = y.b ∧ x.c = y.c ∧ (x.d == y.d) = false)
    ∨ (x.a = y.a ∧ x.b = y.b ∧ x.c = y.c ∧ x.d = y.d ∧ (x.p == y.p) = false) ∨ (x.a = y.a ∧ x.b = y.b ∧ x.c = y.c ∧ x.d = y.d ∧ x.p = y.p ∧ (x.q == y.q) = false) ∨ (x.a = y.a ∧ x.b = y.b ∧ x.c = y.c ∧ x.d = y.d ∧ x.p = y.p ∧ x.q = y.q ∧ (x.r == y.r) = false) ∨ (x.a = y.a ∧ x.b = y.b ∧ x.c = y.c ∧ x.d = y.d ∧ x.p = y.p ∧ x.q = y.q ∧ x.r = y.r ∧ (x.s == y.s) = false) := by
  obtain ⟨a, b, c, d, p, q, r, s⟩ := x
  obtain ⟨a', b', c', d', p', q', r', s'⟩ := y
  simp only [beq_eq_false_iff_ne, ne_eq]
  simp only [ne_eq, Iv.mk.injEq] at h
  by_cases h1 : a = a'
  · by_cases h2 : b = b'
    · by_cases h3 : c = c'
      · by_cases h4 : d = d'
        · by_cases h5 : p = p'
          · by_cases h6 : q = q'
            · by_cases h7 : r = r'
              · exact .inr (.inr (.inr (.inr (.inr (.inr (.inr ⟨h1, h2, h3, h4, h5, h6, h7, fun h8 => h ⟨h1, h2, h3, h4, h5, h6, h7, h8⟩⟩))))))
              · exact .inr (.inr (.inr (.inr (.inr (.inr (.inl ⟨h1, h2, h3, h4, h5, h6, h7⟩))))))
            · exact .inr (.inr (.inr (.inr (.inr (.inl ⟨h1, h2, h3, h4, h5, h6⟩)))))
          · exact .inr (.inr (.inr (.inr (.inl ⟨h1, h2, h3, h4, h5⟩))))
        · exact .inr (.inr (.inr (.inl ⟨h1, h2, h3, h4⟩)))
      · exact .inr (.inr (.inl ⟨h1, h2, h3⟩))
    · exact .inr (.inl ⟨h1, h2⟩)
  · exact .inl h1

set_option maxHeartbeats 8000000 in
set_option maxRecDepth 100000 in
theorem gequal_any (sv tv : Value) (xs ys : List Iv) (w : World) (h : REls RIv w sv xs) (h' : REls RIv w tv ys) (hl : xs.length ≤ 1000000) :
    Calls Try.prog 21 #[sv, tv] w fun e w' => e = .returned (.bool (decide (xs = ys))) ∧ Below w.heap.size w w' := by
  obtain ⟨a, cap, rfl⟩ := h.shape
  obtain ⟨a', cap', rfl⟩ := h'.shape
  have HE := Lib.hid h
  have HE' := Lib.hid h'
  by_cases hlen : xs.length = ys.length
  · rw [← hlen] at HE' ⊢
    generalize hm : xs.length = m at *
    have HN := Lib.hid hm
    have HN' := Lib.hid hlen
    clear h h' hlen hm
    go_enter Try.func21, Try.ntmps21
    go_wp2
    go_loopw [5] (fun x wr => ∃ k : Nat, k ≤ m ∧ x = .int .i64 k ∧ Hid (xs.take k = ys.take k) ∧ Hid (Below w.heap.size w wr)) (fun x _ => m - (intOf x).toNat)
    case atStart => exact ⟨0, by omega, rfl, rfl, Below.refl _ _⟩
    case round =>
      obtain ⟨k, hk, rfl, hF, hB⟩ := hrel
      by_cases hlt : k < m
      · have hki : (k : Int) < m := by omega
        obtain ⟨x, hx⟩ : ∃ x, xs[k]? = some x := ⟨xs[k]'(by rw [HN.out]; exact hlt), List.getElem?_eq_getElem _⟩
        obtain ⟨y, hy⟩ : ∃ y, ys[k]? = some y := ⟨ys[k]'(by rw [← HN'.out]; exact hlt), List.getElem?_eq_getElem _⟩
        obtain ⟨b, rfl, -⟩ := HE.out.get hlt
        obtain ⟨b', rfl, -⟩ := HE'.out.get hlt
        obtain ⟨g0, g1, g2, g3, g4, g5, g6, g7, hb⟩ := iv_at (HE.out.below hB.out) hx
        obtain ⟨l0, l1, l2, l3, l4, l5, l6, l7, lb⟩ := iv_at (HE'.out.below hB.out) hy
        by_cases hxy : x = y
        · have HF2 := Lib.hid (ne_snoc hF.out hx hy hxy)
          subst hxy
          clear hx hy hF
          obtain ⟨xa, xb, xc, xd, xp, xq, xr, xs'⟩ := x
          simp only at *
          go_wp2_with fail
          go_quiet (fail)
          go_wp2
          go_roundw
          case rel => exact ⟨k + 1, by omega, by go_num, HF2, Lib.hid (below_drewN hB.out _)⟩
          case measure => simp [intOf]; omega
        · have hE := Lib.hid (show decide (xs = ys) = false from decide_eq_false fun h => hxy (by rw [h] at hx; rw [hx] at hy; cases hy; rfl))
          have hc := iv_ne hxy
          clear hx hy hF hxy
          obtain ⟨xa, xb, xc, xd, xp, xq, xr, xs'⟩ := x
          obtain ⟨ya, yb, yc, yd, yp, yq, yr, ys'⟩ := y
          simp only at *
          rcases hc with h1 | ⟨rfl, h1⟩ | ⟨rfl, rfl, h1⟩ | ⟨rfl, rfl, rfl, h1⟩ | ⟨rfl, rfl, rfl, rfl, h1⟩ | ⟨rfl, rfl, rfl, rfl, rfl, h1⟩ | ⟨rfl, rfl, rfl, rfl, rfl, rfl, h1⟩ | ⟨rfl, rfl, rfl, rfl, rfl, rfl, rfl, h1⟩
          all_goals
            go_wp2_with fail
            go_quiet (fail)
            go_wp2
            go_ret
            exact ⟨ret_bool hE.out.symm, below_drewN hB.out _⟩
      · have hki : (m : Int) ≤ (k : Int) := by omega
        have hE := Lib.hid (show decide (xs = ys) = true from decide_eq_true (by
          have := hF.out
          rwa [List.take_of_length_le (by rw [HN.out]; omega), List.take_of_length_le (by rw [← HN'.out]; omega)] at this))
        go_wp2
        go_ret
        exact ⟨ret_bool hE.out.symm, hB.out⟩
  · have hE := Lib.hid (show decide (xs = ys) = false from decide_eq_false fun h => hlen (by rw [h]))
    generalize xs.length = m at *
    generalize ys.length = m' at *
    have h1 : ((m : Int) != (m' : Int)) = true := by rw [bne_iff_ne]; omega
    clear h h' hlen
    go_enter Try.func21, Try.ntmps21
    go_wp2
    go_ret
    exact ⟨ret_bool hE.out.symm, Below.refl _ _⟩

end Go.Proofs.Ytimbgjpjgbjnkaa
