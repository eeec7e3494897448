/- Contracts of the reference of span: Normal, Combine. -/
import Derived.Test.YtimbgjpjgbjnkaaPg
import Derived.Test.YtimbgjpjgbjnkaaOpsEx
namespace Go.Proofs.Ytimbgjpjgbjnkaa
open Go.RowKit Go.Shelf

theorem inC_iff {P : List (Int × Int)} {cs : List Bool} {S : Int → Prop} (hl : cs.length = 2 * P.length + 1) (hS : ∀ κ, S κ → lowC.key ≤ κ ∧ κ < highC.key) (hc : ∀ c κ, c ≤ 2 * P.length → loC P c ≤ κ → κ < loC P (c + 1) → (S κ ↔ cs[c]? = some true)) (κ : Int) : inC P cs cs.length κ ↔ S κ := by
  constructor
  · rintro ⟨d, hd, h1, h2, h3⟩
    exact (hc d κ (by omega) h2 h3).2 h1
  · intro hk
    have hb := hS κ hk
    obtain ⟨d, hd, h2, h3⟩ := cell_of (P := P) (κ := κ) (2 * P.length + 1) (by rw [loC_zero]; exact hb.1) (by rw [loC_end]; exact hb.2)
    exact ⟨d, by omega, (hc d κ (by omega) h2 h3).1 hk, h2, h3⟩

theorem cellsB_at (xs : List Iv) (P : List (Int × Int)) {c : Nat} (hc : c ≤ 2 * P.length) : (cellsB xs P)[c]? = some (xs.any fun x => covB x P c) := by
  unfold cellsB
  rw [List.getElem?_map, List.getElem?_range (by omega)]
  rfl

theorem cells_S {P : List (Int × Int)} (hP : PtsOk P) {xs : List Iv} (hx : ∀ x ∈ xs, x.good = true) (hl : ∀ x ∈ xs, Lims x P) (κ : Int) : inC P (cellsB xs P) (cellsB xs P).length κ ↔ inL xs κ :=
  inC_iff (cellsB_len xs P) (fun κ hk => in_bounds hx hk) (fun c κ hc h1 h2 => by
    rw [cellsB_at xs P hc, cells_in hP hx hl hc h1 h2]
    simp) κ

theorem two_ofOut {P : List (Int × Int)} {cs : List Bool} {S : Int → Prop} {w w1 w' : World} {e : Ending} (h : OfOut P cs w1 e w') (hS : ∀ κ, inC P cs cs.length κ ↔ S κ) (hB : Below w.heap.size w w1) : Two (limL (theSet S)).1 (limL (theSet S)).2 w e w' := by
  obtain ⟨L, hf, hi, hB1, hr⟩ := h
  have hBB := hB.trans (hB1.mono hB.size)
  have hL := fun κ => (hi κ).trans (hS κ)
  rcases hr with ⟨hl, rfl⟩ | ⟨hl, a, n, c, rfl, hE⟩
  · rw [← theSet_is hf hL]
    unfold limL
    rw [if_pos hl]
    exact two_err hBB
  · exact two_of hf hL hE hBB (.inr ⟨hl, rfl⟩)

set_option maxHeartbeats 8000000 in
set_option maxRecDepth 100000 in
theorem gnormal_any (sv : Value) (xs : List Iv) (w : World) (h : REls RIv w sv xs) (hl : xs.length ≤ 100000) :
    Calls Try.prog 18 #[sv] w (Two (normL xs).1 (normL xs).2 w) := by
  obtain ⟨a, cap, rfl⟩ := h.shape
  have HE := Lib.hid h
  have KP := Lib.hid fun (hg : ∀ x ∈ xs, x.good = true) W (hB : Below w.heap.size w W) => points_any _ [xs] _ (LEls.new1 (h.below hB) 23) (fun ys hy => by simp at hy; subst hy; exact hg) (fun ys hy => by simp at hy; subst hy; exact hl) (by simp)
  have KC := Lib.hid fun (hg : ∀ x ∈ xs, x.good = true) P pv W (hB : Below w.heap.size w W) (hP : PtsOk P) (hL : ∀ x ∈ xs, Lims x P) (hp : PSl W pv P) (hpl : P.length ≤ 10000000) => cells_any _ pv xs P W (h.below hB) hg hL (by omega) hP hp hpl
  generalize hn : xs.length = n at *
  have HN := Lib.hid hn
  clear h hn
  go_enter Try.func18, Try.ntmps18
  go_wp2
  go_loopw [4] (fun x wr => ∃ k : Nat, k ≤ n ∧ x = .int .i64 k ∧ Hid (∀ x ∈ xs.take k, x.good = true) ∧ Hid (Below w.heap.size w wr)) (fun x _ => n - (intOf x).toNat)
  case atStart => exact ⟨0, by omega, rfl, fun x hx => by simp at hx, Below.refl _ _⟩
  case round =>
    obtain ⟨k, hk, rfl, hF, hB⟩ := hrel
    by_cases hlt : k < n
    · have hki : (k : Int) < n := by omega
      obtain ⟨x, hx⟩ : ∃ x, xs[k]? = some x := ⟨xs[k]'(by rw [HN.out]; exact hlt), List.getElem?_eq_getElem _⟩
      obtain ⟨b, rfl, -⟩ := HE.out.get hlt
      obtain ⟨g0, g1, g2, g3, g4, g5, g6, g7, hb⟩ := iv_at (HE.out.below hB.out) hx
      have kv := Lib.hid fun W => good_any x W
      have HX := Lib.hid hx
      clear hx
      cases hG : x.good
      case false =>
        have hno : Hid (normL xs = ([], 1)) := Lib.hid (by
          unfold normL
          rw [if_neg (fun hh => by have := hh x (List.mem_of_getElem? HX.out); rw [hG] at this; cases this)])
        rw [hG] at kv
        clear hG HX
        obtain ⟨xa, xb, xc, xd, xp, xq, xr, xs'⟩ := x
        unfold Iv.v at kv
        simp only at *
        go_wp2_with fail
        refine (kv.out _).mono ?_
        rintro e w1 ⟨rfl, hr⟩
        have H1 := Lib.hid (hB.out.trans (hr.mono hB.out.size))
        clear hr
        go_wp2
        go_ret2
        rw [hno.out]
        exact two_err H1.out
      case true =>
        have hF2 : Hid (∀ x ∈ xs.take (k + 1), x.good = true) := fun y hy => by
          rw [List.take_add_one, HX.out, List.mem_append] at hy
          rcases hy with hy | hy
          · exact hF.out y hy
          · simp at hy
            rw [hy]
            exact hG
        rw [hG] at kv
        clear hG HX
        obtain ⟨xa, xb, xc, xd, xp, xq, xr, xs'⟩ := x
        unfold Iv.v at kv
        simp only at *
        go_wp2_with fail
        refine (kv.out _).mono ?_
        rintro e w1 ⟨rfl, hr⟩
        have H1 := Lib.hid (hB.out.trans (hr.mono hB.out.size))
        clear hr g0 g1 g2 g3 g4 g5 g6 g7
        go_wp2
        go_roundw
        case rel => exact ⟨k + 1, by omega, by go_num, hF2, H1⟩
        case measure => simp [intOf]; omega
    · have hki : (n : Int) ≤ (k : Int) := by omega
      have hall : ∀ x ∈ xs, x.good = true := by
        have := hF.out
        rwa [List.take_of_length_le (by rw [HN.out]; omega)] at this
      have hno : Hid (normL xs = limL (theSet (inL xs))) := Lib.hid (by
        unfold normL
        rw [if_pos hall])
      have HALL := Lib.hid hall
      have K1 := Lib.hid (KP.out hall wr hB.out)
      have HB0 := Lib.hid (hB.out.alloc hB.out.size (.cells #[.slice a n cap] 23))
      clear hall KP hF
      go_wp2_with fail
      refine (K1.out).mono ?_
      rintro e w1 ⟨P, pv, hP, hL, hPl, rfl, hp, hr⟩
      have H1 := Lib.hid (HB0.out.trans (hr.mono HB0.out.size))
      have HP := Lib.hid hP
      have HL := Lib.hid fun x hx => hL xs (List.mem_singleton_self _) x hx
      have HV := Lib.hid hp
      have hpl : P.length ≤ 10000000 := by simp at hPl; omega
      have K2 := Lib.hid (KC.out HALL.out P pv w1 H1.out HP.out HL.out hp hpl)
      have HCS := Lib.hid (cells_S HP.out HALL.out HL.out)
      obtain ⟨pa, pc, rfl⟩ := hp.shape
      clear hr hP hL hp K1 hPl
      generalize hpn : P.length = pn at *
      have HPN := Lib.hid hpn
      clear hpn
      go_wp2_with fail
      refine (K2.out).mono ?_
      rintro e w2 ⟨ca, cn, cc, rfl, hcn, hO, hr⟩
      have H2 := Lib.hid (H1.out.trans (hr.out.mono H1.out.size))
      have K3 := Lib.hid (of04_any (.slice pa pn pc) _ P (cellsB xs P) w2 HP.out (HV.out.below hr.out) hO.els (cellsB_len _ _) (by rw [HPN.out]; exact hpl))
      clear hr hO hcn K2
      go_wp2_with fail
      refine (K3.out).mono ?_
      intro e w3 hof
      have H3 := two_ofOut hof HCS.out H2.out
      rw [← hno.out] at H3
      have H3 := Lib.hid H3
      clear hof K3
      obtain ⟨a4, n4, c4, rfl, hE4, hB4⟩ := H3.out
      clear H3
      go_wp2
      go_ret2
      exact ⟨a4, n4, c4, rfl, hE4, hB4⟩

end Go.Proofs.Ytimbgjpjgbjnkaa
