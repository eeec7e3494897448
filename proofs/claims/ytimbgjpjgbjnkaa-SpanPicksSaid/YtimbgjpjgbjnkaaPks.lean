/- Contracts of the reference of span: Pick. -/
import Derived.Test.YtimbgjpjgbjnkaaPkr
import Derived.Test.YtimbgjpjgbjnkaaGc
import Derived.Test.YtimbgjpjgbjnkaaGb
import Derived.Test.YtimbgjpjgbjnkaaPk1Pk2
namespace Go.Proofs.Ytimbgjpjgbjnkaa
open Go.RowKit Go.Shelf

/-- Between two small ratios there is one. -/
theorem mid_small {a b c d : Int} (o : SmallR a b) (o' : SmallR c d) (hlt : a * d < c * b) : ∃ p q : Int, Qm.Ok p q ∧ a * q < p * b ∧ p * d < c * q := by
  have hb := o.1.1
  have hd := o'.1.1
  have hne : b + d ≠ 0 := by omega
  rcases Qm.ofR_out (n := a + c) (d := b + d) hne with e | ⟨p, q, _, hq, e⟩
  · exfalso
    rw [Qm.ofR_pos (by omega)] at e
    have hg := Qm.g_pos (a := a + c) (b := b + d) hne
    have b1 := ediv_le (a := a + c) (M := 1099511627776) hg (by have := o.2.1; have := o'.2.1; omega) (by have := o.2.2.1; have := o'.2.2.1; omega)
    have b2 := ediv_le (a := b + d) (M := 1048576) hg (by omega) (by have := o.2.2.2; have := o'.2.2.2; omega)
    rw [if_neg (by omega)] at e
    simp at e
  · have hq0 := hq.1
    refine ⟨p, q, hq, ?_, ?_⟩
    · have : a * q * (b + d) < p * b * (b + d) := by
        have x1 : p * b * (b + d) = (a + c) * q * b := by rw [← e]; ac_rfl
        have x2 : a * q * (b + d) = a * b * q + a * d * q := by rw [Int.mul_add]; ac_rfl
        have x3 : (a + c) * q * b = a * b * q + c * b * q := by rw [Int.add_mul, Int.add_mul]; ac_rfl
        have x4 : a * d * q < c * b * q := Int.mul_lt_mul_of_pos_right hlt (by omega)
        omega
      exact Int.lt_of_mul_lt_mul_right this (by omega)
    · have : p * d * (b + d) < c * q * (b + d) := by
        have x1 : p * d * (b + d) = (a + c) * q * d := by rw [← e]; ac_rfl
        have x2 : c * q * (b + d) = c * b * q + c * d * q := by rw [Int.mul_add]; ac_rfl
        have x3 : (a + c) * q * d = a * d * q + c * d * q := by rw [Int.add_mul, Int.add_mul]; ac_rfl
        have x4 : a * d * q < c * b * q := Int.mul_lt_mul_of_pos_right hlt (by omega)
        omega
      exact Int.lt_of_mul_lt_mul_right this (by omega)

/-- A valid interval has a number. -/
theorem good_some {x : Iv} (hg : x.good = true) : ∃ r, InI x r := by
  obtain ⟨hf, ht⟩ := good_from hg
  have hlt := (good_parts hg).2.2
  have k1 := key_split x.from
  have k2 := key_split x.to
  cases ha : x.from.a with
  | false =>
    refine ⟨(x.from.n, x.from.d), hf.ok, ?_, ?_⟩
    · rw [k1, ha]; simp
    · rw [k1, ha] at hlt; simp at hlt; omega
  | true =>
    have hfs : SmallR x.from.n x.from.d := by
      rcases hf with e | e
      · rw [e] at ha; cases ha
      · exact e
    cases hb : x.to.a with
    | true =>
      refine ⟨(x.to.n, x.to.d), ht.ok, ?_, ?_⟩
      · rw [k1, k2, ha, hb] at hlt; rw [k1, ha]; simp at hlt ⊢; omega
      · rw [k2, hb]; simp
    | false =>
      have hts : SmallR x.to.n x.to.d := by
        rcases ht with e | e
        · rw [e] at hb; cases hb
        · exact e
      rw [k1, k2, ha, hb] at hlt
      simp at hlt
      have hk : kR x.from.n x.from.d < kR x.to.n x.to.d := by unfold kP at hlt; simp only at hlt; omega
      obtain ⟨p, q, o, h1, h2⟩ := mid_small hfs hts ((kR_lt hfs.1.1 hfs.1.2.1 hts.1.1 hts.1.2.1).1 hk)
      have l1 := (kR_lt hfs.1.1 hfs.1.2.1 o.1 o.2.1).2 h1
      have l2 := (kR_lt o.1 o.2.1 hts.1.1 hts.1.2.1).2 h2
      refine ⟨(p, q), o, ?_, ?_⟩
      · rw [k1, ha]; unfold kP; simp; omega
      · rw [k2, hb]; unfold kP; simp; omega

theorem least_of {α : Type} (f : α → Nat) (S : α → Prop) : ∀ (n : Nat) (a : α), f a ≤ n → S a → ∃ b, S b ∧ ∀ c, S c → f b ≤ f c
  | 0, a, h, hs => ⟨a, hs, fun c _ => by omega⟩
  | n + 1, a, h, hs => by
    by_cases hc : ∃ c, S c ∧ f c < f a
    · obtain ⟨c, h1, h2⟩ := hc
      exact least_of f S n c (by omega) h1
    · exact ⟨a, hs, fun c h1 => Nat.le_of_not_lt fun h2 => hc ⟨c, h1, h2⟩⟩

/-- How simple a number is. -/
def smpN (p : Int × Int) : Nat := p.2.toNat * 4398046511104 + (absZ p.1).toNat * 2 + if p.1 < 0 then 1 else 0

theorem smpN_le {p q : Int × Int} (hp : Qm.Ok p.1 p.2) (hq : Qm.Ok q.1 q.2) (h : smpN p ≤ smpN q) : SmpLe p q := by
  obtain ⟨p1, p2, p3, p4, _⟩ := hp
  obtain ⟨q1, q2, q3, q4, _⟩ := hq
  unfold smpN absZ at h
  unfold SmpLe absZ
  split at h <;> split at h <;> omega

/-- A set that is not empty has a simplest number. -/
theorem pick_exists {xs : List Iv} (hg : ∀ x ∈ xs, x.good = true) (h0 : xs ≠ []) : ∃ r, IsPick xs r := by
  obtain ⟨x, hx⟩ := List.exists_mem_of_ne_nil xs h0
  obtain ⟨r, hr⟩ := good_some (hg x hx)
  obtain ⟨b, ⟨y, hy, hb⟩, hm⟩ := least_of smpN (fun p => ∃ x ∈ xs, InI x p) _ r (Nat.le_refl _) ⟨x, hx, hr⟩
  exact ⟨b, ⟨y, hy, hb⟩, fun q ⟨z, hz, hq⟩ => smpN_le hb.1 hq.1 (hm q ⟨z, hz, hq⟩)⟩

/-- One block may change, all others stay. -/
def Save (p : Nat) (A B : World) : Prop := A.heap.size ≤ B.heap.size ∧ ∀ b, b < A.heap.size → b ≠ p → B.heap[b]? = A.heap[b]?

theorem Save.refl (p : Nat) (A : World) : Save p A A := ⟨Nat.le_refl _, fun _ _ _ => rfl⟩

theorem Save.below {p : Nat} {A B C : World} (h : Save p A B) (hB : Below B.heap.size B C) : Save p A C :=
  ⟨Nat.le_trans h.1 hB.size, fun b hb hp => (hB.block b (Nat.lt_of_lt_of_le hb h.1)).trans (h.2 b hb hp)⟩

theorem Save.set {p o : Nat} {A B : World} {v : Value} (h : Save p A B) : Save p A (B.setCell ⟨p, o, none⟩ v) :=
  ⟨by simpa [World.setCell] using h.1, fun b hb hp => (Below.heap_setCell _ _ _ _ hp).trans (h.2 b hb hp)⟩

theorem Own.save {k : IntKind} {E : TypeId} {B p : Nat} {A W : World} {v : Value} {zs : List Int} (h : Own k E B A v zs) (hp : p < B) (hS : Save p A W) : Own k E B W v zs := by
  obtain ⟨hl, h | ⟨g, cap, cur, e, hg, hc, hr⟩⟩ := h
  · exact ⟨hl, .inl h⟩
  · exact ⟨hl, .inr ⟨g, cap, cur, e, hg, (hS.2 g (Array.getElem?_eq_some_iff.1 hc).1 (by omega)).trans hc, hr⟩⟩

/-- What lies in the box of the best. -/
def bestV (b : Option (Int × Int)) : Int × Int := b.getD (0, 0)

/-- Its numerator is one of a ratio. -/
def BestB (b : Option (Int × Int)) : Prop := ∀ s, b = some s → -1099511627776 ≤ s.1 ∧ s.1 ≤ 1099511627776

theorem ofR_range (k : Int) {d : Int} (hd : 1 ≤ d) : -1099511627776 ≤ (Qm.ofR k d).1 ∧ (Qm.ofR k d).1 ≤ 1099511627776 := by
  rcases Qm.ofR_out (n := k) (d := d) (by omega) with e | ⟨a, b, e, o, _⟩
  · rw [e]; simp
  · rw [e]; exact ⟨o.2.2.1, o.2.2.2.1⟩

theorem BestB.step {x : Iv} {d k : Int} {b : Option (Int × Int)} (hd : 1 ≤ d) (h : BestB b) : BestB (step4 x d b k) := by
  unfold step4
  split
  · intro s hs
    cases hs
    exact ofR_range k hd
  · exact h

theorem near_le {x : Iv} (hg : x.good = true) {d : Int} (h1 : 1 ≤ d) (h2 : d ≤ 1048576) : (nearL x d).length ≤ 9 ∧ ∀ k ∈ nearL x d, -1125899906842627 ≤ k ∧ k ≤ 1125899906842627 := by
  have hlo := good_lo4 hg
  have hhi := good_hi4 hg
  unfold nearL
  obtain ⟨a, b, c, e, p, q, r, s⟩ := x
  simp only at *
  constructor
  · cases r <;> cases s <;> simp
  · intro k hk
    cases r with
    | true =>
      cases s with
      | true => simp at hk; omega
      | false =>
        obtain ⟨_, f1, f2⟩ := floor_le (hhi rfl).2.1 (hhi rfl).2.2.1 h1 h2 (hhi rfl).1.1
        simp at hk
        omega
    | false =>
      obtain ⟨_, f1, f2⟩ := floor_le (hlo rfl).2.1 (hlo rfl).2.2.1 h1 h2 (hlo rfl).1.1
      cases s with
      | true => simp at hk; omega
      | false =>
        obtain ⟨_, f3, f4⟩ := floor_le (hhi rfl).2.1 (hhi rfl).2.2.1 h1 h2 (hhi rfl).1.1
        simp at hk
        omega

set_option maxHeartbeats 16000000 in
set_option maxRecDepth 100000 in
theorem gpick_any (sv : Value) (xs : List Iv) (w : World) (h : REls RIv w sv xs) (hl : xs.length ≤ 100000) :
    Calls Try.prog 35 #[sv] w (PickOut xs w) := by
  obtain ⟨a, cap, rfl⟩ := h.shape
  have hS1 : Since w (w.alloc (.cells #[.int .i64 0, .int .i64 0] 25)) := Below.alloc (Below.refl _ _) (Nat.le_refl _) _
  have XR := Lib.hid (BoxL.made w #[.int .i64 0, .int .i64 0] 25)
  have kv := gvalid_any _ xs _ (h.below hS1) (by omega)
  have HB0 := Lib.hid hS1
  have HE := Lib.hid h
  generalize hn : xs.length = n at *
  have HN := Lib.hid hn
  clear h hn hS1
  by_cases hv : validL xs = 0
  rotate_left 1
  · have hz : (validL xs != 0) = true := by simpa using hv
    have HP : Hid (∀ w', Below w.heap.size w w' → PickOut xs w (.returned (.tuple #[.agg #[.int .i64 0, .int .i64 0], .bool false, .int .i64 (validL xs)])) w') := Lib.hid fun w' hB => ⟨hB, .inl ⟨hv, rfl⟩⟩
    generalize validL xs = q at *
    have KV := Lib.hid kv
    clear kv hv
    go_enter Try.func35, Try.ntmps35
    go_wp2_with fail
    refine (KV.out).mono ?_
    rintro e w1 ⟨rfl, hr⟩
    have H1 := Lib.hid (Below.trans HB0.out (hr.mono (Below.size HB0.out)))
    have X1 := Lib.hid (XR.out.keep hr)
    clear hr
    obtain ⟨r0, r1, r2, r3, r4⟩ := X1.out.open2
    go_wp2
    with_reducible refine bodyPost_end2 (B := w.heap.size) (w := w) (z0 := .int .i64 0) (z1 := .int .i64 0) (v := .tuple #[.agg #[.int .i64 0, .int .i64 0], .bool false, .int .i64 q]) ?hX ?hB ?hN ?hd ?hr ?hQ
    case hQ =>
      intro W h
      exact HP.out _ h
    case hX => exact X1.out
    case hB => exact H1.out
    case hN => exact Nat.le_refl _
    case hd => rfl
    case hr =>
      intro W h
      obtain ⟨o0, o1, -, -, o2⟩ := h.open2
      clear h
      simp [results, Try.results35, go_sem, o0, o1]
  · rw [hv] at kv
    have HV := Lib.hid hv
    have HG := Lib.hid (validL_fit hv).1
    have KV := Lib.hid kv
    clear kv hv
    by_cases h0 : n = 0
    · subst h0
      have HP : Hid (∀ w', Below w.heap.size w w' → PickOut xs w (.returned (.tuple #[.agg #[.int .i64 0, .int .i64 0], .bool false, .int .i64 0])) w') := Lib.hid fun w' hB => ⟨hB, .inr (.inl ⟨HV.out, List.eq_nil_of_length_eq_zero HN.out, rfl⟩)⟩
      go_enter Try.func35, Try.ntmps35
      go_wp2_with fail
      refine (KV.out).mono ?_
      rintro e w1 ⟨rfl, hr⟩
      have H1 := Lib.hid (Below.trans HB0.out (hr.mono (Below.size HB0.out)))
      have X1 := Lib.hid (XR.out.keep hr)
      clear hr
      obtain ⟨r0, r1, r2, r3, r4⟩ := X1.out.open2
      go_wp2
      with_reducible refine bodyPost_end2 (B := w.heap.size) (w := w) (z0 := .int .i64 0) (z1 := .int .i64 0) (v := .tuple #[.agg #[.int .i64 0, .int .i64 0], .bool false, .int .i64 0]) ?hX ?hB ?hN ?hd ?hr ?hQ
      case hQ =>
        intro W h
        exact HP.out _ h
      case hX => exact X1.out
      case hB => exact H1.out
      case hN => exact Nat.le_refl _
      case hd => rfl
      case hr =>
        intro W h
        obtain ⟨o0, o1, -, -, o2⟩ := h.open2
        clear h
        simp [results, Try.results35, go_sem, o0, o1]
    · have hz0 : ((n : Int) == 0) = false := by rw [beq_eq_false_iff_ne]; omega
      have HNE : Hid (xs ≠ []) := Lib.hid fun hh => h0 (by rw [← HN.out, hh]; rfl)
      obtain ⟨⟨rn, rd⟩, hpk⟩ := pick_exists (fun x hx => HG.out.good hx) HNE.out
      obtain ⟨hb1, hb2⟩ := best_pick (fun x hx => HG.out.good hx) hpk
      have hok := (pick_in hpk).1
      obtain ⟨D, hD⟩ : ∃ D : Nat, rd = (D : Int) := ⟨rd.toNat, by have := hok.1; simp only at this; omega⟩
      subst hD
      have hD1 : 1 ≤ D := by have := hok.1; simp only at this; omega
      have hD2 : D ≤ 1048576 := by have := hok.2.1; simp only at this; omega
      have HB1 := Lib.hid hb1
      have HB2 := Lib.hid hb2
      have HP : Hid (∀ w', Below w.heap.size w w' → PickOut xs w (.returned (.tuple #[.agg #[.int .i64 rn, .int .i64 (D : Int)], .bool true, .int .i64 0])) w') := Lib.hid fun w' hB => ⟨hB, .inr (.inr ⟨HV.out, HNE.out, (rn, (D : Int)), hpk, rfl⟩)⟩
      obtain ⟨b, rfl, -⟩ := HE.out.get (j := 0) (by omega)
      clear h0 hb1 hb2 hok hpk
      go_enter Try.func35, Try.ntmps35
      go_wp2_with fail
      refine (KV.out).mono ?_
      rintro e w1 ⟨rfl, hr⟩
      have H1 := Lib.hid (Below.trans HB0.out (hr.mono (Below.size HB0.out)))
      have X1 := Lib.hid (XR.out.keep hr)
      clear hr
      go_wp2_with fail
      go_loopw [6] (fun x wr => ∃ d : Nat, 1 ≤ d ∧ d ≤ D ∧ x = .int .i64 d ∧ Hid (Below (w.heap.size + 1) w1 wr)) (fun x _ => D + 1 - (intOf x).toNat)
      case atStart => exact ⟨1, by omega, by omega, rfl, Below.refl _ _⟩
      case round =>
        obtain ⟨d, hd1, hdD, rfl, hB⟩ := hrel
        have hwr : w.heap.size + 1 ≤ wr.heap.size := Nat.le_trans (show w.heap.size + 1 ≤ w1.heap.size from X1.out.1) hB.out.size
        have XN := Lib.hid (BoxL.made wr #[.int .i64 0, .int .i64 0] 25)
        have HBN := Lib.hid (hB.out.alloc hwr (.cells #[.int .i64 0, .int .i64 0] 25))
        have hd0 : 1 ≤ (d : Int) := by omega
        have hdd : (d : Int) ≤ 1048576 := by omega
        have idx : IntKind.i64.wrap ((d : Int) + 1) = (d : Int) + 1 := IntWalk.i64_in _ (by omega)
        rename World => wq
        clear hB
        go_wp2
        generalize wq.heap.size = NB at *
        go_loopw [8, 9] (fun f x wr => ∃ i : Nat, ∃ bo : Option (Int × Int), i ≤ n ∧ x = .int .i64 i ∧ f = .bool bo.isSome ∧ Hid (bo = (xs.take i).foldl (row4 (d : Int)) none) ∧ Hid (BestB bo) ∧ Hid (BoxL NB [.int .i64 (bestV bo).1, .int .i64 (bestV bo).2] wr) ∧ Hid (Below (w.heap.size + 1) w1 wr)) (fun _ x _ => n - (intOf x).toNat)
        case atStart => exact ⟨0, none, by omega, rfl, rfl, rfl, fun s hs => (by cases hs), XN, HBN⟩
        case round =>
          obtain ⟨i, bo, hi, rfl, rfl, hbo, hbb, hX, hB⟩ := hrel
          rename World => wi
          clear XN HBN
          by_cases hlt : i < n
          · have i1 : (i : Int) < n := by omega
            have i2 : IntKind.i64.wrap ((i : Int) + 1) = (i : Int) + 1 := IntWalk.i64_in _ (by omega)
            obtain ⟨x, hx⟩ : ∃ x, xs[i]? = some x := ⟨xs[i]'(by rw [HN.out]; exact hlt), List.getElem?_eq_getElem _⟩
            have hgx := HG.out.1 i x hx
            have HX := Lib.hid hx
            have HGX := Lib.hid hgx
            have hBw := H1.out.trans (hB.out.mono (Nat.le_succ _))
            obtain ⟨g0, g1, g2, g3, g4, g5, g6, g7, -⟩ := iv_at (HE.out.below hBw) hx
            have KNR := Lib.hid fun W => near_any x (d : Int) W hgx hd0 hdd
            have hnl := near_le hgx hd0 hdd
            have hst : ∀ bo2, bo2 = (nearL x (d : Int)).foldl (step4 x (d : Int)) bo → bo2 = (xs.take (i + 1)).foldl (row4 (d : Int)) none := fun bo2 he => by
              rw [he, List.take_add_one, hx, List.foldl_append, ← hbo.out]
              rfl
            have HST := Lib.hid hst
            have HNL := Lib.hid hnl
            have hxi : x = x := rfl
            clear hst hnl hgx hx hxi hBw hbo
            have KIN := Lib.hid fun (p q : Int) (W : World) (ho : Qm.Ok p q) => in_any x p q W HGX.out ho
            unfold Iv.v at KNR KIN
            go_wp2_with fail
            refine (KNR.out _).mono ?_
            rintro e wl ⟨al, nl, cl, rfl, hnl, hOl, hr⟩
            have hXl := Lib.hid (hX.out.keep hr.out)
            have HBl := Lib.hid (hB.out.trans (hr.out.mono (by have := hB.out.size; have := X1.out.1; omega)))
            have hNB : NB < wi.heap.size := hX.out.1
            have HOl := hOl
            have hnl9 : nl ≤ 9 := by rw [hnl.out]; exact HNL.out.1
            have HNLN := Lib.hid hnl.out
            generalize wi.heap.size = BL at *
            have HLB := Lib.hid hNB
            clear hr hOl hX hB hnl hNB
            go_wp2
            go_loopw [8, 11] (fun f x' wr => ∃ k : Nat, ∃ b2 : Option (Int × Int), k ≤ nl ∧ x' = .int .i64 k ∧ f = .bool b2.isSome ∧ Hid (b2 = ((nearL x (d : Int)).take k).foldl (step4 x (d : Int)) bo) ∧ Hid (BestB b2) ∧ Hid (BoxL NB [.int .i64 (bestV b2).1, .int .i64 (bestV b2).2] wr) ∧ Hid (Save NB wl wr) ∧ Hid (Below (w.heap.size + 1) w1 wr)) (fun _ x' _ => nl - (intOf x').toNat)
            case atStart => exact ⟨0, bo, by omega, rfl, rfl, rfl, hbb, hXl, Save.refl _ _, HBl⟩
            case round =>
              obtain ⟨k, b2, hk, rfl, rfl, hb2, hbb2, hX, hSv, hB⟩ := hrel
              clear hXl HBl
              by_cases hlt2 : k < nl
              · have k1 : (k : Int) < nl := by omega
                have k2 : IntKind.i64.wrap ((k : Int) + 1) = (k : Int) + 1 := IntWalk.i64_in _ (by omega)
                have hOw := HOl.out.save HLB.out hSv.out
                obtain ⟨bl, off, rfl, hc0⟩ := hOw.els.at k hlt2
                have hz : (nearL x (d : Int))[k]? = some ((nearL x (d : Int))[k]?.getD 0) := by rw [List.getElem?_eq_getElem (by rw [← HNLN.out]; exact hlt2)]; rfl
                have hzb := HNL.out.2 _ (List.mem_of_getElem? hz)
                have hstep : step4 x (d : Int) b2 ((nearL x (d : Int))[k]?.getD 0) = ((nearL x (d : Int)).take (k + 1)).foldl (step4 x (d : Int)) bo := by
                  rw [List.take_add_one, hz, List.foldl_append, ← hb2.out]
                  rfl
                generalize (nearL x (d : Int))[k]?.getD 0 = z at *
                obtain ⟨BN, hBN⟩ : ∃ BN, BN = ((nearL x (d : Int)).take (k + 1)).foldl (step4 x (d : Int)) bo := ⟨_, rfl⟩
                rw [← hBN] at hstep
                have HBN := Lib.hid hBN
                clear hBN
                have KOF := Lib.hid fun W => of_any z (d : Int) W (by omega) (by omega) (by omega)
                have hbbs := hbb2.out.step (x := x) (k := z) hd0
                have hout := Qm.ofR_out (n := z) (d := (d : Int)) (by omega)
                have hrange := ofR_range z hd0
                unfold step4 fits4 at hstep hbbs
                unfold rve at KOF
                generalize hQ : Qm.ofR z (d : Int) = Q at *
                obtain ⟨p, q, f⟩ := Q
                simp only at *
                have HSTEP := Lib.hid hstep
                have HBBS := Lib.hid hbbs
                have HOUT := Lib.hid hout
                have HRNG := Lib.hid hrange
                have HQ := Lib.hid hQ
                clear hz hzb hstep hbbs hout hrange hQ hOw hb2
                go_wp2_with fail
                refine (KOF.out _).mono ?_
                rintro e w4 ⟨rfl, hr⟩
                have HX4 := Lib.hid (hX.out.keep hr)
                have HS4 := Lib.hid (hSv.out.below hr)
                have HB4 := Lib.hid (hB.out.trans (hr.mono (by have := hB.out.size; have := X1.out.1; omega)))
                have XP := Lib.hid (BoxL.made w4 #[.int .i64 p, .int .i64 q] 25)
                have hb5 : Below w4.heap.size w4 (w4.alloc (.cells #[.int .i64 p, .int .i64 q] 25)) := one_more _
                have HX5 := Lib.hid (HX4.out.keep hb5)
                have HS5 := Lib.hid (HS4.out.below hb5)
                have HB5 := Lib.hid (HB4.out.trans (hb5.mono (by have := HB4.out.size; have := X1.out.1; omega)))
                have hw5 : ∃ w5, w5 = w4.alloc (.cells #[.int .i64 p, .int .i64 q] 25) := ⟨_, rfl⟩
                obtain ⟨w5, hw5⟩ := hw5
                rw [← hw5] at XP HX5 HS5 HB5
                clear hr hX hSv hB HX4 HS4 HB4 hb5 hc0
                go_upto_region 18 with (fail)
                rw [← hw5]
                generalize w4.heap.size = NP at *
                clear hw5
                have hBw5 := H1.out.trans (HB5.out.mono (Nat.le_succ _))
                obtain ⟨g0, g1, g2, g3, g4, g5, g6, g7, -⟩ := iv_at (HE.out.below hBw5) HX.out
                obtain ⟨s0, s1, -, -, s4⟩ := XP.out.open2
                clear hBw5
                go_cut [70] (fun s wx => s = .bool (!(decide (f = 0) && (decide (q = (d : Int)) && hasI p q x))) ∧ Hid (Since w5 wx))
                case first =>
                  by_cases hf : f = 0
                  · subst hf
                    have hokp : Qm.Ok p q := by
                      rcases HOUT.out with e | ⟨_, _, e, o, _⟩
                      · simp at e
                      · simp only [Prod.mk.injEq] at e
                        rw [e.1, e.2.1]
                        exact o
                    by_cases hq : q = (d : Int)
                    · subst hq
                      have KINP := Lib.hid fun W => KIN.out p (d : Int) W hokp
                      obtain ⟨G, hG⟩ : ∃ G, hasI p (d : Int) x = G := ⟨_, rfl⟩
                      rw [hG] at KINP
                      have HG' := Lib.hid hG
                      clear hG
                      obtain ⟨xa, xb, xc, xd, xp, xq, xr, xs'⟩ := x
                      simp only at *
                      unfold rv at KINP
                      have KINH := Lib.hid fun W (h : Since w5 W) => (KINP.out W).mono (R' := fun e w' => e = .returned (.bool G) ∧ Since w5 w') fun e w' hq => ⟨hq.1, Since.step h hq.2⟩
                      have hS0 : Since w5 w5 := Below.refl _ _
                      have hSd : Since w5 w5.drew := Below.drew hS0
                      clear KINP KIN KNR KOF HSTEP HBBS HOUT
                      go_region_held3 (fun w' => w'.cell? ⟨b, i * 8, none⟩ = some (.int .i64 xa) ∧ w'.cell? ⟨b, i * 8 + 1, none⟩ = some (.int .i64 xb) ∧ w'.cell? ⟨b, i * 8 + 2, none⟩ = some (.int .i64 xc) ∧ w'.cell? ⟨b, i * 8 + 3, none⟩ = some (.int .i64 xd) ∧ w'.cell? ⟨b, i * 8 + 4, none⟩ = some (.bool xp) ∧ w'.cell? ⟨b, i * 8 + 5, none⟩ = some (.bool xq) ∧ w'.cell? ⟨b, i * 8 + 6, none⟩ = some (.bool xr) ∧ w'.cell? ⟨b, i * 8 + 7, none⟩ = some (.bool xs') ∧ w'.cell? ⟨NP, 0, none⟩ = some (.int .i64 p) ∧ w'.cell? ⟨NP, 1, none⟩ = some (.int .i64 (d : Int)) ∧ Since w5 w')
                        (first | exact ⟨g0, g1, g2, g3, g4, g5, g6, g7, s0, s1, hSd⟩ | exact ⟨Since.cell hB g0, Since.cell hB g1, Since.cell hB g2, Since.cell hB g3, Since.cell hB g4, Since.cell hB g5, Since.cell hB g6, Since.cell hB g7, Since.cell hB s0, Since.cell hB s1, hB⟩)
                        ((go_at_call 57; refine (KINH.out _ hSd).mono ?_; rintro e w' ⟨rfl, hB⟩))
                      all_goals
                        have HBB := Lib.hid hB
                        clear hB
                        go_wp2_with fail
                        go_meet
                        exact ⟨by rw [HG'.out]; simp, HBB⟩
                    · have hq1 : (q != (d : Int)) = true := by simpa using hq
                      have HQ2 := Lib.hid hq
                      have HS0 : Hid (Since w5 w5) := Lib.hid (Below.refl _ _)
                      clear KIN KNR KOF HSTEP HBBS HOUT
                      go_quiet (fail)
                      all_goals
                        go_wp2_with fail
                        go_meet
                        exact ⟨by simp [HQ2.out], Lib.hid (below_drewN HS0.out _)⟩
                  · have hf1 : (f != 0) = true := by simpa using hf
                    have HF2 := Lib.hid hf
                    have HS0 : Hid (Since w5 w5) := Lib.hid (Below.refl _ _)
                    clear KIN KNR KOF HSTEP HBBS HOUT
                    go_quiet (fail)
                    all_goals
                      go_wp2_with fail
                      go_meet
                      exact ⟨by simp [HF2.out], Lib.hid (below_drewN HS0.out _)⟩
                case rest =>
                  obtain ⟨rfl, hS6⟩ := hcut
                  rename World => w6
                  have HX6 := Lib.hid (HX5.out.keep hS6.out)
                  have HS6 := Lib.hid (HS5.out.below hS6.out)
                  have HB6 := Lib.hid (HB5.out.trans (hS6.out.mono (by have := HB5.out.size; have := X1.out.1; omega)))
                  have XP6 := Lib.hid (XP.out.keep hS6.out)
                  have hstep := HSTEP.out
                  have hbbs := HBBS.out
                  generalize hF : (decide (f = 0) && (decide (q = (d : Int)) && hasI p q x)) = F at *
                  clear XP HX5 HS5 HB5 s0 s1 s4 g0 g1 g2 g3 g4 g5 g6 g7 HSTEP HBBS hS6
                  cases F
                  case false =>
                    clear hF
                    have hs2 : b2 = ((nearL x (d : Int)).take (k + 1)).foldl (step4 x (d : Int)) bo := by rw [← HBN.out, ← hstep]; simp
                    have HS2 := Lib.hid hs2
                    clear hstep hbbs hs2
                    go_wp2
                    go_roundw
                    case rel => exact ⟨k + 1, b2, by omega, by go_num, rfl, HS2, hbb2, HX6, HS6, HB6⟩
                    case measure => simp [intOf]; omega
                  case true =>
                    have hf3 : f = 0 ∧ q = (d : Int) ∧ hasI p q x = true := by
                      simp only [Bool.and_eq_true, decide_eq_true_eq] at hF
                      exact hF
                    obtain ⟨rfl, rfl, -⟩ := hf3
                    obtain ⟨rg1, rg2⟩ := HRNG.out
                    simp only [true_and] at hstep hbbs
                    have KP := Lib.hid fun W (h : Since w6 W) => (rsz_any p W (by omega) (by omega)).mono (R' := fun e w' => e = .returned (.int .i64 (absZ p)) ∧ Since w6 w') fun e w' hq => ⟨hq.1, hq.2 ▸ h⟩
                    obtain ⟨s0, s1, -, -, s4⟩ := XP6.out.open2
                    obtain ⟨b0, b1, -, -, b4⟩ := HX6.out.open2
                    have hS0 : Since w6 w6 := Below.refl _ _
                    have hSd : Since w6 w6.drew := Below.drew hS0
                    have HBB2 := Lib.hid hbb2.out
                    have HSTP := Lib.hid hstep
                    have HBBT := Lib.hid hbbs
                    clear hstep hbbs
                    go_upto_region 19 with (fail)
                    go_cut [97] (fun s wx => s = .bool (betterB b2 (p, (d : Int))) ∧ Hid (Since w6 wx))
                    case first =>
                      clear KIN KNR KOF HSTP HBBT HOUT HST HNL HNLN
                      cases b2 with
                      | none =>
                        unfold bestV at b0 b1
                        simp only [Option.getD_none] at b0 b1
                        simp only [Option.isSome_none]
                        go_quiet (fail)
                        all_goals
                          go_wp2_with fail
                          go_meet
                          exact ⟨rfl, Lib.hid (below_drewN hS0 _)⟩
                      | some s =>
                        obtain ⟨sn, sd⟩ := s
                        unfold bestV at b0 b1
                        simp only [Option.getD_some] at b0 b1
                        simp only [Option.isSome_some]
                        obtain ⟨sg1, sg2⟩ := HBB2.out (sn, sd) rfl
                        have KC := Lib.hid fun W (h : Since w6 W) => (rsz_any sn W (by omega) (by omega)).mono (R' := fun e w' => e = .returned (.int .i64 (absZ sn)) ∧ Since w6 w') fun e w' hq => ⟨hq.1, hq.2 ▸ h⟩
                        have hbt : betterB (some (sn, sd)) (p, (d : Int)) = (decide (absZ p < absZ sn) || (decide (absZ p = absZ sn) && decide (sn < p))) := rfl
                        generalize absZ p = A at *
                        generalize absZ sn = C at *
                        rcases Int.lt_trichotomy A C with hac | hac | hac
                        · have h1 : decide (A < C) = true := decide_eq_true hac
                          have HBT : Hid (betterB (some (sn, sd)) (p, (d : Int)) = true) := Lib.hid (by rw [hbt, h1]; rfl)
                          clear hbt sg1 sg2 rg1 rg2
                          refine wp_region_noPanic ?_
                          refine wp_region_held_drew (S := fun w' => w'.cell? ⟨NP, 0, none⟩ = some (.int .i64 p) ∧ w'.cell? ⟨NB, 0, none⟩ = some (.int .i64 sn) ∧ Since w6 w') (by kernel_rfl) ⟨Since.cell hSd s0, Since.cell hSd b0, hSd⟩ (fun hHeld => ?_)
                          refine wpAnyH_take (i := 0) (oi := { dst := some 71, op := Op.move (Operand.tmp 8), type := 4, pos := _, after := #[], guard := none }) (v := ?_) rfl (by kernel_rfl) (by kernel_rfl) (by kernel_rfl) (fun _ _ _ h => h) (Or.inl ⟨by rfl, ?_⟩) (by assumption) ?_
                          rotate_left 1
                          · (intro w hSw; (try dsimp only at hSw); go_simp; first | done | with_reducible rfl)
                          try simp only [Act.put, List.setIfInBounds_toArray, List.set_cons_zero, List.set_cons_succ]
                          refine wpAnyH_take (i := 1) (oi := { dst := some 72, op := Op.unOp UnOp.not 4 (Operand.tmp 71), type := 4, pos := _, after := #[{ on := 0, ground := Ground.data }], guard := none }) (v := ?_) rfl (by kernel_rfl) (by kernel_rfl) (by kernel_rfl) (fun _ _ _ h => h) (Or.inl ⟨by rfl, ?_⟩) (by assumption) ?_
                          rotate_left 1
                          · (intro w hSw; (try dsimp only at hSw); go_simp; first | done | with_reducible rfl)
                          try simp only [Act.put, List.setIfInBounds_toArray, List.set_cons_zero, List.set_cons_succ]
                          refine wpAnyH_take (i := 2) (oi := { dst := some 73, op := Op.move (Operand.tmp 72), type := 4, pos := _, after := #[{ on := 1, ground := Ground.data }], guard := none }) (v := ?_) rfl (by kernel_rfl) (by kernel_rfl) (by kernel_rfl) (fun _ _ _ h => h) (Or.inl ⟨by rfl, ?_⟩) (by assumption) ?_
                          rotate_left 1
                          · (intro w hSw; (try dsimp only at hSw); go_simp; first | done | with_reducible rfl)
                          try simp only [Act.put, List.setIfInBounds_toArray, List.set_cons_zero, List.set_cons_succ]
                          refine wpAnyH_take (i := 3) (oi := { dst := some 74, op := Op.fieldAddr 25 (Operand.tmp 12) 0, type := 0, pos := _, after := #[{ on := 2, ground := Ground.guard }], guard := some (2, false) }) (v := ?_) rfl (by kernel_rfl) (by kernel_rfl) (by kernel_rfl) (fun _ _ _ h => h) (Or.inl ⟨by rfl, ?_⟩) (by assumption) ?_
                          rotate_left 1
                          · (intro w hSw; (try dsimp only at hSw); go_simp; first | done | with_reducible rfl)
                          try simp only [Act.put, List.setIfInBounds_toArray, List.set_cons_zero, List.set_cons_succ]
                          refine wpAnyH_take (i := 4) (oi := { dst := some 75, op := Op.load 3 (Operand.tmp 74), type := 3, pos := _, after := #[{ on := 3, ground := Ground.data }, { on := 2, ground := Ground.guard }], guard := some (2, false) }) (v := ?_) rfl (by kernel_rfl) (by kernel_rfl) (by kernel_rfl) (fun _ _ _ h => h) (Or.inl ⟨by rfl, ?_⟩) (by assumption) ?_
                          rotate_left 1
                          · (intro w hSw; (try dsimp only at hSw); go_simp; first | done | with_reducible rfl)
                          try simp only [Act.put, List.setIfInBounds_toArray, List.set_cons_zero, List.set_cons_succ]
                          refine wpAnyH_take (i := 6) (oi := { dst := some 77, op := Op.fieldAddr 25 (Operand.tmp 7) 0, type := 0, pos := _, after := #[{ on := 2, ground := Ground.guard }], guard := some (2, false) }) (v := ?_) rfl (by kernel_rfl) (by kernel_rfl) (by kernel_rfl) (fun _ _ _ h => h) (Or.inl ⟨by rfl, ?_⟩) (by assumption) ?_
                          rotate_left 1
                          · (intro w hSw; (try dsimp only at hSw); go_simp; first | done | with_reducible rfl)
                          try simp only [Act.put, List.setIfInBounds_toArray, List.set_cons_zero, List.set_cons_succ]
                          refine wpAnyH_take (i := 7) (oi := { dst := some 78, op := Op.load 3 (Operand.tmp 77), type := 3, pos := _, after := #[{ on := 6, ground := Ground.data }, { on := 2, ground := Ground.guard }], guard := some (2, false) }) (v := ?_) rfl (by kernel_rfl) (by kernel_rfl) (by kernel_rfl) (fun _ _ _ h => h) (Or.inl ⟨by rfl, ?_⟩) (by assumption) ?_
                          rotate_left 1
                          · (intro w hSw; (try dsimp only at hSw); go_simp; first | done | with_reducible rfl)
                          try simp only [Act.put, List.setIfInBounds_toArray, List.set_cons_zero, List.set_cons_succ]
                          refine wpAnyH_ready (rs := [5]) (by kernel_rfl) (by simp) ?_
                          refine AllReadyH.cons (o := { dst := some 76, op := Op.call { callee := Callee.value (Operand.func 72), args := #[Operand.tmp 75], argTypes := #[3] }, type := 3, pos := _, after := #[{ on := 4, ground := Ground.data }, { on := 2, ground := Ground.chain }, { on := 2, ground := Ground.guard }], guard := some (2, false) }) rfl (fun K hK => ?_) AllReadyH.nil
                          go_simp
                          go_at_call 72
                          refine (KP.out _ hSd).mono ?_
                          rintro e W1 ⟨rfl, hB1⟩
                          go_wp2_with fail
                          refine hK.out _ _ ?_ (fun hHeld => ?_)
                          · exact ⟨Since.cell hB1 s0, Since.cell hB1 b0, hB1⟩
                          clear hK K
                          try simp only [Act.put, List.setIfInBounds_toArray, List.set_cons_zero, List.set_cons_succ]
                          refine wpAnyH_ready (rs := [8]) (by kernel_rfl) (by simp) ?_
                          refine AllReadyH.cons (o := { dst := some 79, op := Op.call { callee := Callee.value (Operand.func 72), args := #[Operand.tmp 78], argTypes := #[3] }, type := 3, pos := _, after := #[{ on := 7, ground := Ground.data }, { on := 5, ground := Ground.chain }, { on := 2, ground := Ground.guard }], guard := some (2, false) }) rfl (fun K hK => ?_) AllReadyH.nil
                          go_simp
                          go_at_call 72
                          refine (KC.out _ hB1).mono ?_
                          rintro e W2 ⟨rfl, hB2⟩
                          go_wp2_with fail
                          refine hK.out _ _ ?_ (fun hHeld => ?_)
                          · exact ⟨Since.cell hB2 s0, Since.cell hB2 b0, hB2⟩
                          clear hK K
                          try simp only [Act.put, List.setIfInBounds_toArray, List.set_cons_zero, List.set_cons_succ]
                          refine wpAnyH_take (i := 9) (oi := { dst := some 80, op := Op.binOp BinOp.lss 3 (Operand.tmp 76) (Operand.tmp 79) 3, type := 4, pos := _, after := #[{ on := 5, ground := Ground.data }, { on := 8, ground := Ground.data }, { on := 2, ground := Ground.guard }], guard := some (2, false) }) (v := ?_) rfl (by kernel_rfl) (by kernel_rfl) (by kernel_rfl) (fun _ _ _ h => h) (Or.inl ⟨by rfl, ?_⟩) (by assumption) ?_
                          rotate_left 1
                          · (intro w hSw; (try dsimp only at hSw); go_simp; first | done | with_reducible rfl)
                          try simp only [Act.put, List.setIfInBounds_toArray, List.set_cons_zero, List.set_cons_succ]
                          refine wpAnyH_take (i := 10) (oi := { dst := some 81, op := Op.pick (Operand.tmp 73) (Operand.const (Value.bool true)) (Operand.tmp 80), type := 4, pos := _, after := #[{ on := 2, ground := Ground.data }, { on := 9, ground := Ground.data }], guard := none }) (v := ?_) rfl (by kernel_rfl) (by kernel_rfl) (by kernel_rfl) (fun _ _ _ h => h) (Or.inl ⟨by rfl, ?_⟩) (by assumption) ?_
                          rotate_left 1
                          · (intro w hSw; (try dsimp only at hSw); go_simp; first | done | with_reducible rfl)
                          try simp only [Act.put, List.setIfInBounds_toArray, List.set_cons_zero, List.set_cons_succ]
                          refine wpAnyH_take (i := 11) (oi := { dst := some 82, op := Op.move (Operand.tmp 81), type := 4, pos := _, after := #[{ on := 10, ground := Ground.data }, { on := 8, ground := Ground.chain }], guard := none }) (v := ?_) rfl (by kernel_rfl) (by kernel_rfl) (by kernel_rfl) (fun _ _ _ h => h) (Or.inl ⟨by rfl, ?_⟩) (by assumption) ?_
                          rotate_left 1
                          · (intro w hSw; (try dsimp only at hSw); go_simp; first | done | with_reducible rfl)
                          try simp only [Act.put, List.setIfInBounds_toArray, List.set_cons_zero, List.set_cons_succ]
                          refine wpAnyH_take (i := 12) (oi := { dst := some 83, op := Op.fieldAddr 25 (Operand.tmp 12) 0, type := 0, pos := _, after := #[{ on := 11, ground := Ground.guard }], guard := some (11, false) }) (v := undef) rfl (by kernel_rfl) (by kernel_rfl) (by kernel_rfl) (fun _ _ _ h => h) (Or.inr ⟨by rfl, rfl⟩) (by assumption) ?_
                          try simp only [Act.put, List.setIfInBounds_toArray, List.set_cons_zero, List.set_cons_succ]
                          refine wpAnyH_take (i := 13) (oi := { dst := some 84, op := Op.load 3 (Operand.tmp 83), type := 3, pos := _, after := #[{ on := 12, ground := Ground.data }, { on := 11, ground := Ground.guard }], guard := some (11, false) }) (v := undef) rfl (by kernel_rfl) (by kernel_rfl) (by kernel_rfl) (fun _ _ _ h => h) (Or.inr ⟨by rfl, rfl⟩) (by assumption) ?_
                          try simp only [Act.put, List.setIfInBounds_toArray, List.set_cons_zero, List.set_cons_succ]
                          refine wpAnyH_take (i := 14) (oi := { dst := some 85, op := Op.call { callee := Callee.value (Operand.func 72), args := #[Operand.tmp 84], argTypes := #[3] }, type := 3, pos := _, after := #[{ on := 13, ground := Ground.data }, { on := 11, ground := Ground.chain }, { on := 11, ground := Ground.guard }], guard := some (11, false) }) (v := undef) rfl (by kernel_rfl) (by kernel_rfl) (by kernel_rfl) (fun _ _ _ h => h) (Or.inr ⟨by rfl, rfl⟩) (by assumption) ?_
                          try simp only [Act.put, List.setIfInBounds_toArray, List.set_cons_zero, List.set_cons_succ]
                          refine wpAnyH_take (i := 15) (oi := { dst := some 86, op := Op.fieldAddr 25 (Operand.tmp 7) 0, type := 0, pos := _, after := #[{ on := 11, ground := Ground.guard }], guard := some (11, false) }) (v := undef) rfl (by kernel_rfl) (by kernel_rfl) (by kernel_rfl) (fun _ _ _ h => h) (Or.inr ⟨by rfl, rfl⟩) (by assumption) ?_
                          try simp only [Act.put, List.setIfInBounds_toArray, List.set_cons_zero, List.set_cons_succ]
                          refine wpAnyH_take (i := 16) (oi := { dst := some 87, op := Op.load 3 (Operand.tmp 86), type := 3, pos := _, after := #[{ on := 15, ground := Ground.data }, { on := 11, ground := Ground.guard }], guard := some (11, false) }) (v := undef) rfl (by kernel_rfl) (by kernel_rfl) (by kernel_rfl) (fun _ _ _ h => h) (Or.inr ⟨by rfl, rfl⟩) (by assumption) ?_
                          try simp only [Act.put, List.setIfInBounds_toArray, List.set_cons_zero, List.set_cons_succ]
                          refine wpAnyH_take (i := 17) (oi := { dst := some 88, op := Op.call { callee := Callee.value (Operand.func 72), args := #[Operand.tmp 87], argTypes := #[3] }, type := 3, pos := _, after := #[{ on := 16, ground := Ground.data }, { on := 14, ground := Ground.chain }, { on := 11, ground := Ground.guard }], guard := some (11, false) }) (v := undef) rfl (by kernel_rfl) (by kernel_rfl) (by kernel_rfl) (fun _ _ _ h => h) (Or.inr ⟨by rfl, rfl⟩) (by assumption) ?_
                          try simp only [Act.put, List.setIfInBounds_toArray, List.set_cons_zero, List.set_cons_succ]
                          refine wpAnyH_take (i := 18) (oi := { dst := some 89, op := Op.binOp BinOp.eql 3 (Operand.tmp 85) (Operand.tmp 88) 3, type := 4, pos := _, after := #[{ on := 14, ground := Ground.data }, { on := 17, ground := Ground.data }, { on := 11, ground := Ground.guard }], guard := some (11, false) }) (v := undef) rfl (by kernel_rfl) (by kernel_rfl) (by kernel_rfl) (fun _ _ _ h => h) (Or.inr ⟨by rfl, rfl⟩) (by assumption) ?_
                          try simp only [Act.put, List.setIfInBounds_toArray, List.set_cons_zero, List.set_cons_succ]
                          refine wpAnyH_take (i := 19) (oi := { dst := some 90, op := Op.move (Operand.tmp 89), type := 4, pos := _, after := #[{ on := 18, ground := Ground.data }, { on := 17, ground := Ground.chain }, { on := 11, ground := Ground.guard }], guard := some (11, false) }) (v := undef) rfl (by kernel_rfl) (by kernel_rfl) (by kernel_rfl) (fun _ _ _ h => h) (Or.inr ⟨by rfl, rfl⟩) (by assumption) ?_
                          try simp only [Act.put, List.setIfInBounds_toArray, List.set_cons_zero, List.set_cons_succ]
                          refine wpAnyH_take (i := 20) (oi := { dst := some 91, op := Op.fieldAddr 25 (Operand.tmp 12) 0, type := 0, pos := _, after := #[{ on := 19, ground := Ground.guard }], guard := some (19, true) }) (v := undef) rfl (by kernel_rfl) (by kernel_rfl) (by kernel_rfl) (fun _ _ _ h => h) (Or.inr ⟨by rfl, rfl⟩) (by assumption) ?_
                          try simp only [Act.put, List.setIfInBounds_toArray, List.set_cons_zero, List.set_cons_succ]
                          refine wpAnyH_take (i := 21) (oi := { dst := some 92, op := Op.load 3 (Operand.tmp 91), type := 3, pos := _, after := #[{ on := 20, ground := Ground.data }, { on := 19, ground := Ground.guard }], guard := some (19, true) }) (v := undef) rfl (by kernel_rfl) (by kernel_rfl) (by kernel_rfl) (fun _ _ _ h => h) (Or.inr ⟨by rfl, rfl⟩) (by assumption) ?_
                          try simp only [Act.put, List.setIfInBounds_toArray, List.set_cons_zero, List.set_cons_succ]
                          refine wpAnyH_take (i := 22) (oi := { dst := some 93, op := Op.fieldAddr 25 (Operand.tmp 7) 0, type := 0, pos := _, after := #[{ on := 19, ground := Ground.guard }], guard := some (19, true) }) (v := undef) rfl (by kernel_rfl) (by kernel_rfl) (by kernel_rfl) (fun _ _ _ h => h) (Or.inr ⟨by rfl, rfl⟩) (by assumption) ?_
                          try simp only [Act.put, List.setIfInBounds_toArray, List.set_cons_zero, List.set_cons_succ]
                          refine wpAnyH_take (i := 23) (oi := { dst := some 94, op := Op.load 3 (Operand.tmp 93), type := 3, pos := _, after := #[{ on := 22, ground := Ground.data }, { on := 19, ground := Ground.guard }], guard := some (19, true) }) (v := undef) rfl (by kernel_rfl) (by kernel_rfl) (by kernel_rfl) (fun _ _ _ h => h) (Or.inr ⟨by rfl, rfl⟩) (by assumption) ?_
                          try simp only [Act.put, List.setIfInBounds_toArray, List.set_cons_zero, List.set_cons_succ]
                          refine wpAnyH_take (i := 24) (oi := { dst := some 95, op := Op.binOp BinOp.gtr 3 (Operand.tmp 92) (Operand.tmp 94) 3, type := 4, pos := _, after := #[{ on := 21, ground := Ground.data }, { on := 23, ground := Ground.data }, { on := 19, ground := Ground.guard }], guard := some (19, true) }) (v := undef) rfl (by kernel_rfl) (by kernel_rfl) (by kernel_rfl) (fun _ _ _ h => h) (Or.inr ⟨by rfl, rfl⟩) (by assumption) ?_
                          try simp only [Act.put, List.setIfInBounds_toArray, List.set_cons_zero, List.set_cons_succ]
                          refine wpAnyH_take (i := 25) (oi := { dst := some 96, op := Op.pick (Operand.tmp 90) (Operand.tmp 95) (Operand.const (Value.bool false)), type := 4, pos := _, after := #[{ on := 19, ground := Ground.data }, { on := 24, ground := Ground.data }, { on := 11, ground := Ground.guard }], guard := some (11, false) }) (v := undef) rfl (by kernel_rfl) (by kernel_rfl) (by kernel_rfl) (fun _ _ _ h => h) (Or.inr ⟨by rfl, rfl⟩) (by assumption) ?_
                          try simp only [Act.put, List.setIfInBounds_toArray, List.set_cons_zero, List.set_cons_succ]
                          refine wpAnyH_take (i := 26) (oi := { dst := some 97, op := Op.pick (Operand.tmp 82) (Operand.const (Value.bool true)) (Operand.tmp 96), type := 4, pos := _, after := #[{ on := 11, ground := Ground.data }, { on := 25, ground := Ground.data }], guard := none }) (v := ?_) rfl (by kernel_rfl) (by kernel_rfl) (by kernel_rfl) (fun _ _ _ h => h) (Or.inl ⟨by rfl, ?_⟩) (by assumption) ?_
                          rotate_left 1
                          · (intro w hSw; (try dsimp only at hSw); go_simp; first | done | with_reducible rfl)
                          try simp only [Act.put, List.setIfInBounds_toArray, List.set_cons_zero, List.set_cons_succ]
                          refine wpAnyH_done (by kernel_rfl) ?_ _
                          refine NoPanic.normal ?_
                          have HBB := Lib.hid hB2
                          clear hB1 hB2 hSd hS0
                          go_wp2_with fail
                          go_meet
                          exact ⟨by rw [HBT.out], HBB⟩
                        · subst hac
                          by_cases hsp : sn < p
                          · have h1 : decide (p > sn) = true := decide_eq_true hsp
                            have HBT : Hid (betterB (some (sn, sd)) (p, (d : Int)) = true) := Lib.hid (by rw [hbt]; simp [hsp])
                            clear hbt sg1 sg2 rg1 rg2
                            refine wp_region_noPanic ?_
                            refine wp_region_held_drew (S := fun w' => w'.cell? ⟨NP, 0, none⟩ = some (.int .i64 p) ∧ w'.cell? ⟨NB, 0, none⟩ = some (.int .i64 sn) ∧ Since w6 w') (by kernel_rfl) ⟨Since.cell hSd s0, Since.cell hSd b0, hSd⟩ (fun hHeld => ?_)
                            refine wpAnyH_take (i := 0) (oi := { dst := some 71, op := Op.move (Operand.tmp 8), type := 4, pos := _, after := #[], guard := none }) (v := ?_) rfl (by kernel_rfl) (by kernel_rfl) (by kernel_rfl) (fun _ _ _ h => h) (Or.inl ⟨by rfl, ?_⟩) (by assumption) ?_
                            rotate_left 1
                            · (intro w hSw; (try dsimp only at hSw); go_simp; first | done | with_reducible rfl)
                            try simp only [Act.put, List.setIfInBounds_toArray, List.set_cons_zero, List.set_cons_succ]
                            refine wpAnyH_take (i := 1) (oi := { dst := some 72, op := Op.unOp UnOp.not 4 (Operand.tmp 71), type := 4, pos := _, after := #[{ on := 0, ground := Ground.data }], guard := none }) (v := ?_) rfl (by kernel_rfl) (by kernel_rfl) (by kernel_rfl) (fun _ _ _ h => h) (Or.inl ⟨by rfl, ?_⟩) (by assumption) ?_
                            rotate_left 1
                            · (intro w hSw; (try dsimp only at hSw); go_simp; first | done | with_reducible rfl)
                            try simp only [Act.put, List.setIfInBounds_toArray, List.set_cons_zero, List.set_cons_succ]
                            refine wpAnyH_take (i := 2) (oi := { dst := some 73, op := Op.move (Operand.tmp 72), type := 4, pos := _, after := #[{ on := 1, ground := Ground.data }], guard := none }) (v := ?_) rfl (by kernel_rfl) (by kernel_rfl) (by kernel_rfl) (fun _ _ _ h => h) (Or.inl ⟨by rfl, ?_⟩) (by assumption) ?_
                            rotate_left 1
                            · (intro w hSw; (try dsimp only at hSw); go_simp; first | done | with_reducible rfl)
                            try simp only [Act.put, List.setIfInBounds_toArray, List.set_cons_zero, List.set_cons_succ]
                            refine wpAnyH_take (i := 3) (oi := { dst := some 74, op := Op.fieldAddr 25 (Operand.tmp 12) 0, type := 0, pos := _, after := #[{ on := 2, ground := Ground.guard }], guard := some (2, false) }) (v := ?_) rfl (by kernel_rfl) (by kernel_rfl) (by kernel_rfl) (fun _ _ _ h => h) (Or.inl ⟨by rfl, ?_⟩) (by assumption) ?_
                            rotate_left 1
                            · (intro w hSw; (try dsimp only at hSw); go_simp; first | done | with_reducible rfl)
                            try simp only [Act.put, List.setIfInBounds_toArray, List.set_cons_zero, List.set_cons_succ]
                            refine wpAnyH_take (i := 4) (oi := { dst := some 75, op := Op.load 3 (Operand.tmp 74), type := 3, pos := _, after := #[{ on := 3, ground := Ground.data }, { on := 2, ground := Ground.guard }], guard := some (2, false) }) (v := ?_) rfl (by kernel_rfl) (by kernel_rfl) (by kernel_rfl) (fun _ _ _ h => h) (Or.inl ⟨by rfl, ?_⟩) (by assumption) ?_
                            rotate_left 1
                            · (intro w hSw; (try dsimp only at hSw); go_simp; first | done | with_reducible rfl)
                            try simp only [Act.put, List.setIfInBounds_toArray, List.set_cons_zero, List.set_cons_succ]
                            refine wpAnyH_take (i := 6) (oi := { dst := some 77, op := Op.fieldAddr 25 (Operand.tmp 7) 0, type := 0, pos := _, after := #[{ on := 2, ground := Ground.guard }], guard := some (2, false) }) (v := ?_) rfl (by kernel_rfl) (by kernel_rfl) (by kernel_rfl) (fun _ _ _ h => h) (Or.inl ⟨by rfl, ?_⟩) (by assumption) ?_
                            rotate_left 1
                            · (intro w hSw; (try dsimp only at hSw); go_simp; first | done | with_reducible rfl)
                            try simp only [Act.put, List.setIfInBounds_toArray, List.set_cons_zero, List.set_cons_succ]
                            refine wpAnyH_take (i := 7) (oi := { dst := some 78, op := Op.load 3 (Operand.tmp 77), type := 3, pos := _, after := #[{ on := 6, ground := Ground.data }, { on := 2, ground := Ground.guard }], guard := some (2, false) }) (v := ?_) rfl (by kernel_rfl) (by kernel_rfl) (by kernel_rfl) (fun _ _ _ h => h) (Or.inl ⟨by rfl, ?_⟩) (by assumption) ?_
                            rotate_left 1
                            · (intro w hSw; (try dsimp only at hSw); go_simp; first | done | with_reducible rfl)
                            try simp only [Act.put, List.setIfInBounds_toArray, List.set_cons_zero, List.set_cons_succ]
                            refine wpAnyH_ready (rs := [5]) (by kernel_rfl) (by simp) ?_
                            refine AllReadyH.cons (o := { dst := some 76, op := Op.call { callee := Callee.value (Operand.func 72), args := #[Operand.tmp 75], argTypes := #[3] }, type := 3, pos := _, after := #[{ on := 4, ground := Ground.data }, { on := 2, ground := Ground.chain }, { on := 2, ground := Ground.guard }], guard := some (2, false) }) rfl (fun K hK => ?_) AllReadyH.nil
                            go_simp
                            go_at_call 72
                            refine (KP.out _ hSd).mono ?_
                            rintro e W1 ⟨rfl, hB1⟩
                            go_wp2_with fail
                            refine hK.out _ _ ?_ (fun hHeld => ?_)
                            · exact ⟨Since.cell hB1 s0, Since.cell hB1 b0, hB1⟩
                            clear hK K
                            try simp only [Act.put, List.setIfInBounds_toArray, List.set_cons_zero, List.set_cons_succ]
                            refine wpAnyH_ready (rs := [8]) (by kernel_rfl) (by simp) ?_
                            refine AllReadyH.cons (o := { dst := some 79, op := Op.call { callee := Callee.value (Operand.func 72), args := #[Operand.tmp 78], argTypes := #[3] }, type := 3, pos := _, after := #[{ on := 7, ground := Ground.data }, { on := 5, ground := Ground.chain }, { on := 2, ground := Ground.guard }], guard := some (2, false) }) rfl (fun K hK => ?_) AllReadyH.nil
                            go_simp
                            go_at_call 72
                            refine (KC.out _ hB1).mono ?_
                            rintro e W2 ⟨rfl, hB2⟩
                            go_wp2_with fail
                            refine hK.out _ _ ?_ (fun hHeld => ?_)
                            · exact ⟨Since.cell hB2 s0, Since.cell hB2 b0, hB2⟩
                            clear hK K
                            try simp only [Act.put, List.setIfInBounds_toArray, List.set_cons_zero, List.set_cons_succ]
                            refine wpAnyH_take (i := 9) (oi := { dst := some 80, op := Op.binOp BinOp.lss 3 (Operand.tmp 76) (Operand.tmp 79) 3, type := 4, pos := _, after := #[{ on := 5, ground := Ground.data }, { on := 8, ground := Ground.data }, { on := 2, ground := Ground.guard }], guard := some (2, false) }) (v := ?_) rfl (by kernel_rfl) (by kernel_rfl) (by kernel_rfl) (fun _ _ _ h => h) (Or.inl ⟨by rfl, ?_⟩) (by assumption) ?_
                            rotate_left 1
                            · (intro w hSw; (try dsimp only at hSw); go_simp; first | done | with_reducible rfl)
                            try simp only [Act.put, List.setIfInBounds_toArray, List.set_cons_zero, List.set_cons_succ]
                            refine wpAnyH_take (i := 10) (oi := { dst := some 81, op := Op.pick (Operand.tmp 73) (Operand.const (Value.bool true)) (Operand.tmp 80), type := 4, pos := _, after := #[{ on := 2, ground := Ground.data }, { on := 9, ground := Ground.data }], guard := none }) (v := ?_) rfl (by kernel_rfl) (by kernel_rfl) (by kernel_rfl) (fun _ _ _ h => h) (Or.inl ⟨by rfl, ?_⟩) (by assumption) ?_
                            rotate_left 1
                            · (intro w hSw; (try dsimp only at hSw); go_simp; first | done | with_reducible rfl)
                            try simp only [Act.put, List.setIfInBounds_toArray, List.set_cons_zero, List.set_cons_succ]
                            refine wpAnyH_take (i := 11) (oi := { dst := some 82, op := Op.move (Operand.tmp 81), type := 4, pos := _, after := #[{ on := 10, ground := Ground.data }, { on := 8, ground := Ground.chain }], guard := none }) (v := ?_) rfl (by kernel_rfl) (by kernel_rfl) (by kernel_rfl) (fun _ _ _ h => h) (Or.inl ⟨by rfl, ?_⟩) (by assumption) ?_
                            rotate_left 1
                            · (intro w hSw; (try dsimp only at hSw); go_simp; first | done | with_reducible rfl)
                            try simp only [Act.put, List.setIfInBounds_toArray, List.set_cons_zero, List.set_cons_succ]
                            refine wpAnyH_take (i := 12) (oi := { dst := some 83, op := Op.fieldAddr 25 (Operand.tmp 12) 0, type := 0, pos := _, after := #[{ on := 11, ground := Ground.guard }], guard := some (11, false) }) (v := ?_) rfl (by kernel_rfl) (by kernel_rfl) (by kernel_rfl) (fun _ _ _ h => h) (Or.inl ⟨by rfl, ?_⟩) (by assumption) ?_
                            rotate_left 1
                            · (intro w hSw; (try dsimp only at hSw); go_simp; first | done | with_reducible rfl)
                            try simp only [Act.put, List.setIfInBounds_toArray, List.set_cons_zero, List.set_cons_succ]
                            refine wpAnyH_take (i := 13) (oi := { dst := some 84, op := Op.load 3 (Operand.tmp 83), type := 3, pos := _, after := #[{ on := 12, ground := Ground.data }, { on := 11, ground := Ground.guard }], guard := some (11, false) }) (v := ?_) rfl (by kernel_rfl) (by kernel_rfl) (by kernel_rfl) (fun _ _ _ h => h) (Or.inl ⟨by rfl, ?_⟩) (by assumption) ?_
                            rotate_left 1
                            · (intro w hSw; (try dsimp only at hSw); go_simp; first | done | with_reducible rfl)
                            try simp only [Act.put, List.setIfInBounds_toArray, List.set_cons_zero, List.set_cons_succ]
                            refine wpAnyH_take (i := 15) (oi := { dst := some 86, op := Op.fieldAddr 25 (Operand.tmp 7) 0, type := 0, pos := _, after := #[{ on := 11, ground := Ground.guard }], guard := some (11, false) }) (v := ?_) rfl (by kernel_rfl) (by kernel_rfl) (by kernel_rfl) (fun _ _ _ h => h) (Or.inl ⟨by rfl, ?_⟩) (by assumption) ?_
                            rotate_left 1
                            · (intro w hSw; (try dsimp only at hSw); go_simp; first | done | with_reducible rfl)
                            try simp only [Act.put, List.setIfInBounds_toArray, List.set_cons_zero, List.set_cons_succ]
                            refine wpAnyH_take (i := 16) (oi := { dst := some 87, op := Op.load 3 (Operand.tmp 86), type := 3, pos := _, after := #[{ on := 15, ground := Ground.data }, { on := 11, ground := Ground.guard }], guard := some (11, false) }) (v := ?_) rfl (by kernel_rfl) (by kernel_rfl) (by kernel_rfl) (fun _ _ _ h => h) (Or.inl ⟨by rfl, ?_⟩) (by assumption) ?_
                            rotate_left 1
                            · (intro w hSw; (try dsimp only at hSw); go_simp; first | done | with_reducible rfl)
                            try simp only [Act.put, List.setIfInBounds_toArray, List.set_cons_zero, List.set_cons_succ]
                            refine wpAnyH_ready (rs := [14]) (by kernel_rfl) (by simp) ?_
                            refine AllReadyH.cons (o := { dst := some 85, op := Op.call { callee := Callee.value (Operand.func 72), args := #[Operand.tmp 84], argTypes := #[3] }, type := 3, pos := _, after := #[{ on := 13, ground := Ground.data }, { on := 11, ground := Ground.chain }, { on := 11, ground := Ground.guard }], guard := some (11, false) }) rfl (fun K hK => ?_) AllReadyH.nil
                            go_simp
                            go_at_call 72
                            refine (KP.out _ hB2).mono ?_
                            rintro e W3 ⟨rfl, hB3⟩
                            go_wp2_with fail
                            refine hK.out _ _ ?_ (fun hHeld => ?_)
                            · exact ⟨Since.cell hB3 s0, Since.cell hB3 b0, hB3⟩
                            clear hK K
                            try simp only [Act.put, List.setIfInBounds_toArray, List.set_cons_zero, List.set_cons_succ]
                            refine wpAnyH_ready (rs := [17]) (by kernel_rfl) (by simp) ?_
                            refine AllReadyH.cons (o := { dst := some 88, op := Op.call { callee := Callee.value (Operand.func 72), args := #[Operand.tmp 87], argTypes := #[3] }, type := 3, pos := _, after := #[{ on := 16, ground := Ground.data }, { on := 14, ground := Ground.chain }, { on := 11, ground := Ground.guard }], guard := some (11, false) }) rfl (fun K hK => ?_) AllReadyH.nil
                            go_simp
                            go_at_call 72
                            refine (KC.out _ hB3).mono ?_
                            rintro e W4 ⟨rfl, hB4⟩
                            go_wp2_with fail
                            refine hK.out _ _ ?_ (fun hHeld => ?_)
                            · exact ⟨Since.cell hB4 s0, Since.cell hB4 b0, hB4⟩
                            clear hK K
                            try simp only [Act.put, List.setIfInBounds_toArray, List.set_cons_zero, List.set_cons_succ]
                            refine wpAnyH_take (i := 18) (oi := { dst := some 89, op := Op.binOp BinOp.eql 3 (Operand.tmp 85) (Operand.tmp 88) 3, type := 4, pos := _, after := #[{ on := 14, ground := Ground.data }, { on := 17, ground := Ground.data }, { on := 11, ground := Ground.guard }], guard := some (11, false) }) (v := ?_) rfl (by kernel_rfl) (by kernel_rfl) (by kernel_rfl) (fun _ _ _ h => h) (Or.inl ⟨by rfl, ?_⟩) (by assumption) ?_
                            rotate_left 1
                            · (intro w hSw; (try dsimp only at hSw); go_simp; first | done | with_reducible rfl)
                            try simp only [Act.put, List.setIfInBounds_toArray, List.set_cons_zero, List.set_cons_succ]
                            refine wpAnyH_take (i := 19) (oi := { dst := some 90, op := Op.move (Operand.tmp 89), type := 4, pos := _, after := #[{ on := 18, ground := Ground.data }, { on := 17, ground := Ground.chain }, { on := 11, ground := Ground.guard }], guard := some (11, false) }) (v := ?_) rfl (by kernel_rfl) (by kernel_rfl) (by kernel_rfl) (fun _ _ _ h => h) (Or.inl ⟨by rfl, ?_⟩) (by assumption) ?_
                            rotate_left 1
                            · (intro w hSw; (try dsimp only at hSw); go_simp; first | done | with_reducible rfl)
                            try simp only [Act.put, List.setIfInBounds_toArray, List.set_cons_zero, List.set_cons_succ]
                            refine wpAnyH_take (i := 20) (oi := { dst := some 91, op := Op.fieldAddr 25 (Operand.tmp 12) 0, type := 0, pos := _, after := #[{ on := 19, ground := Ground.guard }], guard := some (19, true) }) (v := ?_) rfl (by kernel_rfl) (by kernel_rfl) (by kernel_rfl) (fun _ _ _ h => h) (Or.inl ⟨by rfl, ?_⟩) (by assumption) ?_
                            rotate_left 1
                            · (intro w hSw; (try dsimp only at hSw); go_simp; first | done | with_reducible rfl)
                            try simp only [Act.put, List.setIfInBounds_toArray, List.set_cons_zero, List.set_cons_succ]
                            refine wpAnyH_take (i := 21) (oi := { dst := some 92, op := Op.load 3 (Operand.tmp 91), type := 3, pos := _, after := #[{ on := 20, ground := Ground.data }, { on := 19, ground := Ground.guard }], guard := some (19, true) }) (v := ?_) rfl (by kernel_rfl) (by kernel_rfl) (by kernel_rfl) (fun _ _ _ h => h) (Or.inl ⟨by rfl, ?_⟩) (by assumption) ?_
                            rotate_left 1
                            · (intro w hSw; (try dsimp only at hSw); go_simp; first | done | with_reducible rfl)
                            try simp only [Act.put, List.setIfInBounds_toArray, List.set_cons_zero, List.set_cons_succ]
                            refine wpAnyH_take (i := 22) (oi := { dst := some 93, op := Op.fieldAddr 25 (Operand.tmp 7) 0, type := 0, pos := _, after := #[{ on := 19, ground := Ground.guard }], guard := some (19, true) }) (v := ?_) rfl (by kernel_rfl) (by kernel_rfl) (by kernel_rfl) (fun _ _ _ h => h) (Or.inl ⟨by rfl, ?_⟩) (by assumption) ?_
                            rotate_left 1
                            · (intro w hSw; (try dsimp only at hSw); go_simp; first | done | with_reducible rfl)
                            try simp only [Act.put, List.setIfInBounds_toArray, List.set_cons_zero, List.set_cons_succ]
                            refine wpAnyH_take (i := 23) (oi := { dst := some 94, op := Op.load 3 (Operand.tmp 93), type := 3, pos := _, after := #[{ on := 22, ground := Ground.data }, { on := 19, ground := Ground.guard }], guard := some (19, true) }) (v := ?_) rfl (by kernel_rfl) (by kernel_rfl) (by kernel_rfl) (fun _ _ _ h => h) (Or.inl ⟨by rfl, ?_⟩) (by assumption) ?_
                            rotate_left 1
                            · (intro w hSw; (try dsimp only at hSw); go_simp; first | done | with_reducible rfl)
                            try simp only [Act.put, List.setIfInBounds_toArray, List.set_cons_zero, List.set_cons_succ]
                            refine wpAnyH_take (i := 24) (oi := { dst := some 95, op := Op.binOp BinOp.gtr 3 (Operand.tmp 92) (Operand.tmp 94) 3, type := 4, pos := _, after := #[{ on := 21, ground := Ground.data }, { on := 23, ground := Ground.data }, { on := 19, ground := Ground.guard }], guard := some (19, true) }) (v := ?_) rfl (by kernel_rfl) (by kernel_rfl) (by kernel_rfl) (fun _ _ _ h => h) (Or.inl ⟨by rfl, ?_⟩) (by assumption) ?_
                            rotate_left 1
                            · (intro w hSw; (try dsimp only at hSw); go_simp; first | done | with_reducible rfl)
                            try simp only [Act.put, List.setIfInBounds_toArray, List.set_cons_zero, List.set_cons_succ]
                            refine wpAnyH_take (i := 25) (oi := { dst := some 96, op := Op.pick (Operand.tmp 90) (Operand.tmp 95) (Operand.const (Value.bool false)), type := 4, pos := _, after := #[{ on := 19, ground := Ground.data }, { on := 24, ground := Ground.data }, { on := 11, ground := Ground.guard }], guard := some (11, false) }) (v := ?_) rfl (by kernel_rfl) (by kernel_rfl) (by kernel_rfl) (fun _ _ _ h => h) (Or.inl ⟨by rfl, ?_⟩) (by assumption) ?_
                            rotate_left 1
                            · (intro w hSw; (try dsimp only at hSw); go_simp; first | done | with_reducible rfl)
                            try simp only [Act.put, List.setIfInBounds_toArray, List.set_cons_zero, List.set_cons_succ]
                            refine wpAnyH_take (i := 26) (oi := { dst := some 97, op := Op.pick (Operand.tmp 82) (Operand.const (Value.bool true)) (Operand.tmp 96), type := 4, pos := _, after := #[{ on := 11, ground := Ground.data }, { on := 25, ground := Ground.data }], guard := none }) (v := ?_) rfl (by kernel_rfl) (by kernel_rfl) (by kernel_rfl) (fun _ _ _ h => h) (Or.inl ⟨by rfl, ?_⟩) (by assumption) ?_
                            rotate_left 1
                            · (intro w hSw; (try dsimp only at hSw); go_simp; first | done | with_reducible rfl)
                            try simp only [Act.put, List.setIfInBounds_toArray, List.set_cons_zero, List.set_cons_succ]
                            refine wpAnyH_done (by kernel_rfl) ?_ _
                            refine NoPanic.normal ?_
                            have HBB := Lib.hid hB4
                            clear hB1 hB2 hB3 hB4 hSd hS0
                            go_wp2_with fail
                            go_meet
                            exact ⟨by rw [HBT.out], HBB⟩
                          · have h1 : decide (p > sn) = false := decide_eq_false hsp
                            have HBT : Hid (betterB (some (sn, sd)) (p, (d : Int)) = false) := Lib.hid (by rw [hbt]; simp [hsp])
                            clear hbt sg1 sg2 rg1 rg2
                            refine wp_region_noPanic ?_
                            refine wp_region_held_drew (S := fun w' => w'.cell? ⟨NP, 0, none⟩ = some (.int .i64 p) ∧ w'.cell? ⟨NB, 0, none⟩ = some (.int .i64 sn) ∧ Since w6 w') (by kernel_rfl) ⟨Since.cell hSd s0, Since.cell hSd b0, hSd⟩ (fun hHeld => ?_)
                            refine wpAnyH_take (i := 0) (oi := { dst := some 71, op := Op.move (Operand.tmp 8), type := 4, pos := _, after := #[], guard := none }) (v := ?_) rfl (by kernel_rfl) (by kernel_rfl) (by kernel_rfl) (fun _ _ _ h => h) (Or.inl ⟨by rfl, ?_⟩) (by assumption) ?_
                            rotate_left 1
                            · (intro w hSw; (try dsimp only at hSw); go_simp; first | done | with_reducible rfl)
                            try simp only [Act.put, List.setIfInBounds_toArray, List.set_cons_zero, List.set_cons_succ]
                            refine wpAnyH_take (i := 1) (oi := { dst := some 72, op := Op.unOp UnOp.not 4 (Operand.tmp 71), type := 4, pos := _, after := #[{ on := 0, ground := Ground.data }], guard := none }) (v := ?_) rfl (by kernel_rfl) (by kernel_rfl) (by kernel_rfl) (fun _ _ _ h => h) (Or.inl ⟨by rfl, ?_⟩) (by assumption) ?_
                            rotate_left 1
                            · (intro w hSw; (try dsimp only at hSw); go_simp; first | done | with_reducible rfl)
                            try simp only [Act.put, List.setIfInBounds_toArray, List.set_cons_zero, List.set_cons_succ]
                            refine wpAnyH_take (i := 2) (oi := { dst := some 73, op := Op.move (Operand.tmp 72), type := 4, pos := _, after := #[{ on := 1, ground := Ground.data }], guard := none }) (v := ?_) rfl (by kernel_rfl) (by kernel_rfl) (by kernel_rfl) (fun _ _ _ h => h) (Or.inl ⟨by rfl, ?_⟩) (by assumption) ?_
                            rotate_left 1
                            · (intro w hSw; (try dsimp only at hSw); go_simp; first | done | with_reducible rfl)
                            try simp only [Act.put, List.setIfInBounds_toArray, List.set_cons_zero, List.set_cons_succ]
                            refine wpAnyH_take (i := 3) (oi := { dst := some 74, op := Op.fieldAddr 25 (Operand.tmp 12) 0, type := 0, pos := _, after := #[{ on := 2, ground := Ground.guard }], guard := some (2, false) }) (v := ?_) rfl (by kernel_rfl) (by kernel_rfl) (by kernel_rfl) (fun _ _ _ h => h) (Or.inl ⟨by rfl, ?_⟩) (by assumption) ?_
                            rotate_left 1
                            · (intro w hSw; (try dsimp only at hSw); go_simp; first | done | with_reducible rfl)
                            try simp only [Act.put, List.setIfInBounds_toArray, List.set_cons_zero, List.set_cons_succ]
                            refine wpAnyH_take (i := 4) (oi := { dst := some 75, op := Op.load 3 (Operand.tmp 74), type := 3, pos := _, after := #[{ on := 3, ground := Ground.data }, { on := 2, ground := Ground.guard }], guard := some (2, false) }) (v := ?_) rfl (by kernel_rfl) (by kernel_rfl) (by kernel_rfl) (fun _ _ _ h => h) (Or.inl ⟨by rfl, ?_⟩) (by assumption) ?_
                            rotate_left 1
                            · (intro w hSw; (try dsimp only at hSw); go_simp; first | done | with_reducible rfl)
                            try simp only [Act.put, List.setIfInBounds_toArray, List.set_cons_zero, List.set_cons_succ]
                            refine wpAnyH_take (i := 6) (oi := { dst := some 77, op := Op.fieldAddr 25 (Operand.tmp 7) 0, type := 0, pos := _, after := #[{ on := 2, ground := Ground.guard }], guard := some (2, false) }) (v := ?_) rfl (by kernel_rfl) (by kernel_rfl) (by kernel_rfl) (fun _ _ _ h => h) (Or.inl ⟨by rfl, ?_⟩) (by assumption) ?_
                            rotate_left 1
                            · (intro w hSw; (try dsimp only at hSw); go_simp; first | done | with_reducible rfl)
                            try simp only [Act.put, List.setIfInBounds_toArray, List.set_cons_zero, List.set_cons_succ]
                            refine wpAnyH_take (i := 7) (oi := { dst := some 78, op := Op.load 3 (Operand.tmp 77), type := 3, pos := _, after := #[{ on := 6, ground := Ground.data }, { on := 2, ground := Ground.guard }], guard := some (2, false) }) (v := ?_) rfl (by kernel_rfl) (by kernel_rfl) (by kernel_rfl) (fun _ _ _ h => h) (Or.inl ⟨by rfl, ?_⟩) (by assumption) ?_
                            rotate_left 1
                            · (intro w hSw; (try dsimp only at hSw); go_simp; first | done | with_reducible rfl)
                            try simp only [Act.put, List.setIfInBounds_toArray, List.set_cons_zero, List.set_cons_succ]
                            refine wpAnyH_ready (rs := [5]) (by kernel_rfl) (by simp) ?_
                            refine AllReadyH.cons (o := { dst := some 76, op := Op.call { callee := Callee.value (Operand.func 72), args := #[Operand.tmp 75], argTypes := #[3] }, type := 3, pos := _, after := #[{ on := 4, ground := Ground.data }, { on := 2, ground := Ground.chain }, { on := 2, ground := Ground.guard }], guard := some (2, false) }) rfl (fun K hK => ?_) AllReadyH.nil
                            go_simp
                            go_at_call 72
                            refine (KP.out _ hSd).mono ?_
                            rintro e W1 ⟨rfl, hB1⟩
                            go_wp2_with fail
                            refine hK.out _ _ ?_ (fun hHeld => ?_)
                            · exact ⟨Since.cell hB1 s0, Since.cell hB1 b0, hB1⟩
                            clear hK K
                            try simp only [Act.put, List.setIfInBounds_toArray, List.set_cons_zero, List.set_cons_succ]
                            refine wpAnyH_ready (rs := [8]) (by kernel_rfl) (by simp) ?_
                            refine AllReadyH.cons (o := { dst := some 79, op := Op.call { callee := Callee.value (Operand.func 72), args := #[Operand.tmp 78], argTypes := #[3] }, type := 3, pos := _, after := #[{ on := 7, ground := Ground.data }, { on := 5, ground := Ground.chain }, { on := 2, ground := Ground.guard }], guard := some (2, false) }) rfl (fun K hK => ?_) AllReadyH.nil
                            go_simp
                            go_at_call 72
                            refine (KC.out _ hB1).mono ?_
                            rintro e W2 ⟨rfl, hB2⟩
                            go_wp2_with fail
                            refine hK.out _ _ ?_ (fun hHeld => ?_)
                            · exact ⟨Since.cell hB2 s0, Since.cell hB2 b0, hB2⟩
                            clear hK K
                            try simp only [Act.put, List.setIfInBounds_toArray, List.set_cons_zero, List.set_cons_succ]
                            refine wpAnyH_take (i := 9) (oi := { dst := some 80, op := Op.binOp BinOp.lss 3 (Operand.tmp 76) (Operand.tmp 79) 3, type := 4, pos := _, after := #[{ on := 5, ground := Ground.data }, { on := 8, ground := Ground.data }, { on := 2, ground := Ground.guard }], guard := some (2, false) }) (v := ?_) rfl (by kernel_rfl) (by kernel_rfl) (by kernel_rfl) (fun _ _ _ h => h) (Or.inl ⟨by rfl, ?_⟩) (by assumption) ?_
                            rotate_left 1
                            · (intro w hSw; (try dsimp only at hSw); go_simp; first | done | with_reducible rfl)
                            try simp only [Act.put, List.setIfInBounds_toArray, List.set_cons_zero, List.set_cons_succ]
                            refine wpAnyH_take (i := 10) (oi := { dst := some 81, op := Op.pick (Operand.tmp 73) (Operand.const (Value.bool true)) (Operand.tmp 80), type := 4, pos := _, after := #[{ on := 2, ground := Ground.data }, { on := 9, ground := Ground.data }], guard := none }) (v := ?_) rfl (by kernel_rfl) (by kernel_rfl) (by kernel_rfl) (fun _ _ _ h => h) (Or.inl ⟨by rfl, ?_⟩) (by assumption) ?_
                            rotate_left 1
                            · (intro w hSw; (try dsimp only at hSw); go_simp; first | done | with_reducible rfl)
                            try simp only [Act.put, List.setIfInBounds_toArray, List.set_cons_zero, List.set_cons_succ]
                            refine wpAnyH_take (i := 11) (oi := { dst := some 82, op := Op.move (Operand.tmp 81), type := 4, pos := _, after := #[{ on := 10, ground := Ground.data }, { on := 8, ground := Ground.chain }], guard := none }) (v := ?_) rfl (by kernel_rfl) (by kernel_rfl) (by kernel_rfl) (fun _ _ _ h => h) (Or.inl ⟨by rfl, ?_⟩) (by assumption) ?_
                            rotate_left 1
                            · (intro w hSw; (try dsimp only at hSw); go_simp; first | done | with_reducible rfl)
                            try simp only [Act.put, List.setIfInBounds_toArray, List.set_cons_zero, List.set_cons_succ]
                            refine wpAnyH_take (i := 12) (oi := { dst := some 83, op := Op.fieldAddr 25 (Operand.tmp 12) 0, type := 0, pos := _, after := #[{ on := 11, ground := Ground.guard }], guard := some (11, false) }) (v := ?_) rfl (by kernel_rfl) (by kernel_rfl) (by kernel_rfl) (fun _ _ _ h => h) (Or.inl ⟨by rfl, ?_⟩) (by assumption) ?_
                            rotate_left 1
                            · (intro w hSw; (try dsimp only at hSw); go_simp; first | done | with_reducible rfl)
                            try simp only [Act.put, List.setIfInBounds_toArray, List.set_cons_zero, List.set_cons_succ]
                            refine wpAnyH_take (i := 13) (oi := { dst := some 84, op := Op.load 3 (Operand.tmp 83), type := 3, pos := _, after := #[{ on := 12, ground := Ground.data }, { on := 11, ground := Ground.guard }], guard := some (11, false) }) (v := ?_) rfl (by kernel_rfl) (by kernel_rfl) (by kernel_rfl) (fun _ _ _ h => h) (Or.inl ⟨by rfl, ?_⟩) (by assumption) ?_
                            rotate_left 1
                            · (intro w hSw; (try dsimp only at hSw); go_simp; first | done | with_reducible rfl)
                            try simp only [Act.put, List.setIfInBounds_toArray, List.set_cons_zero, List.set_cons_succ]
                            refine wpAnyH_take (i := 15) (oi := { dst := some 86, op := Op.fieldAddr 25 (Operand.tmp 7) 0, type := 0, pos := _, after := #[{ on := 11, ground := Ground.guard }], guard := some (11, false) }) (v := ?_) rfl (by kernel_rfl) (by kernel_rfl) (by kernel_rfl) (fun _ _ _ h => h) (Or.inl ⟨by rfl, ?_⟩) (by assumption) ?_
                            rotate_left 1
                            · (intro w hSw; (try dsimp only at hSw); go_simp; first | done | with_reducible rfl)
                            try simp only [Act.put, List.setIfInBounds_toArray, List.set_cons_zero, List.set_cons_succ]
                            refine wpAnyH_take (i := 16) (oi := { dst := some 87, op := Op.load 3 (Operand.tmp 86), type := 3, pos := _, after := #[{ on := 15, ground := Ground.data }, { on := 11, ground := Ground.guard }], guard := some (11, false) }) (v := ?_) rfl (by kernel_rfl) (by kernel_rfl) (by kernel_rfl) (fun _ _ _ h => h) (Or.inl ⟨by rfl, ?_⟩) (by assumption) ?_
                            rotate_left 1
                            · (intro w hSw; (try dsimp only at hSw); go_simp; first | done | with_reducible rfl)
                            try simp only [Act.put, List.setIfInBounds_toArray, List.set_cons_zero, List.set_cons_succ]
                            refine wpAnyH_ready (rs := [14]) (by kernel_rfl) (by simp) ?_
                            refine AllReadyH.cons (o := { dst := some 85, op := Op.call { callee := Callee.value (Operand.func 72), args := #[Operand.tmp 84], argTypes := #[3] }, type := 3, pos := _, after := #[{ on := 13, ground := Ground.data }, { on := 11, ground := Ground.chain }, { on := 11, ground := Ground.guard }], guard := some (11, false) }) rfl (fun K hK => ?_) AllReadyH.nil
                            go_simp
                            go_at_call 72
                            refine (KP.out _ hB2).mono ?_
                            rintro e W3 ⟨rfl, hB3⟩
                            go_wp2_with fail
                            refine hK.out _ _ ?_ (fun hHeld => ?_)
                            · exact ⟨Since.cell hB3 s0, Since.cell hB3 b0, hB3⟩
                            clear hK K
                            try simp only [Act.put, List.setIfInBounds_toArray, List.set_cons_zero, List.set_cons_succ]
                            refine wpAnyH_ready (rs := [17]) (by kernel_rfl) (by simp) ?_
                            refine AllReadyH.cons (o := { dst := some 88, op := Op.call { callee := Callee.value (Operand.func 72), args := #[Operand.tmp 87], argTypes := #[3] }, type := 3, pos := _, after := #[{ on := 16, ground := Ground.data }, { on := 14, ground := Ground.chain }, { on := 11, ground := Ground.guard }], guard := some (11, false) }) rfl (fun K hK => ?_) AllReadyH.nil
                            go_simp
                            go_at_call 72
                            refine (KC.out _ hB3).mono ?_
                            rintro e W4 ⟨rfl, hB4⟩
                            go_wp2_with fail
                            refine hK.out _ _ ?_ (fun hHeld => ?_)
                            · exact ⟨Since.cell hB4 s0, Since.cell hB4 b0, hB4⟩
                            clear hK K
                            try simp only [Act.put, List.setIfInBounds_toArray, List.set_cons_zero, List.set_cons_succ]
                            refine wpAnyH_take (i := 18) (oi := { dst := some 89, op := Op.binOp BinOp.eql 3 (Operand.tmp 85) (Operand.tmp 88) 3, type := 4, pos := _, after := #[{ on := 14, ground := Ground.data }, { on := 17, ground := Ground.data }, { on := 11, ground := Ground.guard }], guard := some (11, false) }) (v := ?_) rfl (by kernel_rfl) (by kernel_rfl) (by kernel_rfl) (fun _ _ _ h => h) (Or.inl ⟨by rfl, ?_⟩) (by assumption) ?_
                            rotate_left 1
                            · (intro w hSw; (try dsimp only at hSw); go_simp; first | done | with_reducible rfl)
                            try simp only [Act.put, List.setIfInBounds_toArray, List.set_cons_zero, List.set_cons_succ]
                            refine wpAnyH_take (i := 19) (oi := { dst := some 90, op := Op.move (Operand.tmp 89), type := 4, pos := _, after := #[{ on := 18, ground := Ground.data }, { on := 17, ground := Ground.chain }, { on := 11, ground := Ground.guard }], guard := some (11, false) }) (v := ?_) rfl (by kernel_rfl) (by kernel_rfl) (by kernel_rfl) (fun _ _ _ h => h) (Or.inl ⟨by rfl, ?_⟩) (by assumption) ?_
                            rotate_left 1
                            · (intro w hSw; (try dsimp only at hSw); go_simp; first | done | with_reducible rfl)
                            try simp only [Act.put, List.setIfInBounds_toArray, List.set_cons_zero, List.set_cons_succ]
                            refine wpAnyH_take (i := 20) (oi := { dst := some 91, op := Op.fieldAddr 25 (Operand.tmp 12) 0, type := 0, pos := _, after := #[{ on := 19, ground := Ground.guard }], guard := some (19, true) }) (v := ?_) rfl (by kernel_rfl) (by kernel_rfl) (by kernel_rfl) (fun _ _ _ h => h) (Or.inl ⟨by rfl, ?_⟩) (by assumption) ?_
                            rotate_left 1
                            · (intro w hSw; (try dsimp only at hSw); go_simp; first | done | with_reducible rfl)
                            try simp only [Act.put, List.setIfInBounds_toArray, List.set_cons_zero, List.set_cons_succ]
                            refine wpAnyH_take (i := 21) (oi := { dst := some 92, op := Op.load 3 (Operand.tmp 91), type := 3, pos := _, after := #[{ on := 20, ground := Ground.data }, { on := 19, ground := Ground.guard }], guard := some (19, true) }) (v := ?_) rfl (by kernel_rfl) (by kernel_rfl) (by kernel_rfl) (fun _ _ _ h => h) (Or.inl ⟨by rfl, ?_⟩) (by assumption) ?_
                            rotate_left 1
                            · (intro w hSw; (try dsimp only at hSw); go_simp; first | done | with_reducible rfl)
                            try simp only [Act.put, List.setIfInBounds_toArray, List.set_cons_zero, List.set_cons_succ]
                            refine wpAnyH_take (i := 22) (oi := { dst := some 93, op := Op.fieldAddr 25 (Operand.tmp 7) 0, type := 0, pos := _, after := #[{ on := 19, ground := Ground.guard }], guard := some (19, true) }) (v := ?_) rfl (by kernel_rfl) (by kernel_rfl) (by kernel_rfl) (fun _ _ _ h => h) (Or.inl ⟨by rfl, ?_⟩) (by assumption) ?_
                            rotate_left 1
                            · (intro w hSw; (try dsimp only at hSw); go_simp; first | done | with_reducible rfl)
                            try simp only [Act.put, List.setIfInBounds_toArray, List.set_cons_zero, List.set_cons_succ]
                            refine wpAnyH_take (i := 23) (oi := { dst := some 94, op := Op.load 3 (Operand.tmp 93), type := 3, pos := _, after := #[{ on := 22, ground := Ground.data }, { on := 19, ground := Ground.guard }], guard := some (19, true) }) (v := ?_) rfl (by kernel_rfl) (by kernel_rfl) (by kernel_rfl) (fun _ _ _ h => h) (Or.inl ⟨by rfl, ?_⟩) (by assumption) ?_
                            rotate_left 1
                            · (intro w hSw; (try dsimp only at hSw); go_simp; first | done | with_reducible rfl)
                            try simp only [Act.put, List.setIfInBounds_toArray, List.set_cons_zero, List.set_cons_succ]
                            refine wpAnyH_take (i := 24) (oi := { dst := some 95, op := Op.binOp BinOp.gtr 3 (Operand.tmp 92) (Operand.tmp 94) 3, type := 4, pos := _, after := #[{ on := 21, ground := Ground.data }, { on := 23, ground := Ground.data }, { on := 19, ground := Ground.guard }], guard := some (19, true) }) (v := ?_) rfl (by kernel_rfl) (by kernel_rfl) (by kernel_rfl) (fun _ _ _ h => h) (Or.inl ⟨by rfl, ?_⟩) (by assumption) ?_
                            rotate_left 1
                            · (intro w hSw; (try dsimp only at hSw); go_simp; first | done | with_reducible rfl)
                            try simp only [Act.put, List.setIfInBounds_toArray, List.set_cons_zero, List.set_cons_succ]
                            refine wpAnyH_take (i := 25) (oi := { dst := some 96, op := Op.pick (Operand.tmp 90) (Operand.tmp 95) (Operand.const (Value.bool false)), type := 4, pos := _, after := #[{ on := 19, ground := Ground.data }, { on := 24, ground := Ground.data }, { on := 11, ground := Ground.guard }], guard := some (11, false) }) (v := ?_) rfl (by kernel_rfl) (by kernel_rfl) (by kernel_rfl) (fun _ _ _ h => h) (Or.inl ⟨by rfl, ?_⟩) (by assumption) ?_
                            rotate_left 1
                            · (intro w hSw; (try dsimp only at hSw); go_simp; first | done | with_reducible rfl)
                            try simp only [Act.put, List.setIfInBounds_toArray, List.set_cons_zero, List.set_cons_succ]
                            refine wpAnyH_take (i := 26) (oi := { dst := some 97, op := Op.pick (Operand.tmp 82) (Operand.const (Value.bool true)) (Operand.tmp 96), type := 4, pos := _, after := #[{ on := 11, ground := Ground.data }, { on := 25, ground := Ground.data }], guard := none }) (v := ?_) rfl (by kernel_rfl) (by kernel_rfl) (by kernel_rfl) (fun _ _ _ h => h) (Or.inl ⟨by rfl, ?_⟩) (by assumption) ?_
                            rotate_left 1
                            · (intro w hSw; (try dsimp only at hSw); go_simp; first | done | with_reducible rfl)
                            try simp only [Act.put, List.setIfInBounds_toArray, List.set_cons_zero, List.set_cons_succ]
                            refine wpAnyH_done (by kernel_rfl) ?_ _
                            refine NoPanic.normal ?_
                            have HBB := Lib.hid hB4
                            clear hB1 hB2 hB3 hB4 hSd hS0
                            go_wp2_with fail
                            go_meet
                            exact ⟨by rw [HBT.out], HBB⟩
                        · have h1 : decide (A < C) = false := decide_eq_false (by omega)
                          have h2 : (A == C) = false := beq_eq_false_iff_ne.2 (by omega)
                          have HBT : Hid (betterB (some (sn, sd)) (p, (d : Int)) = false) := Lib.hid (by rw [hbt, h1, decide_eq_false (show ¬ A = C by omega)]; rfl)
                          clear hbt sg1 sg2 rg1 rg2
                          refine wp_region_noPanic ?_
                          refine wp_region_held_drew (S := fun w' => w'.cell? ⟨NP, 0, none⟩ = some (.int .i64 p) ∧ w'.cell? ⟨NB, 0, none⟩ = some (.int .i64 sn) ∧ Since w6 w') (by kernel_rfl) ⟨Since.cell hSd s0, Since.cell hSd b0, hSd⟩ (fun hHeld => ?_)
                          refine wpAnyH_take (i := 0) (oi := { dst := some 71, op := Op.move (Operand.tmp 8), type := 4, pos := _, after := #[], guard := none }) (v := ?_) rfl (by kernel_rfl) (by kernel_rfl) (by kernel_rfl) (fun _ _ _ h => h) (Or.inl ⟨by rfl, ?_⟩) (by assumption) ?_
                          rotate_left 1
                          · (intro w hSw; (try dsimp only at hSw); go_simp; first | done | with_reducible rfl)
                          try simp only [Act.put, List.setIfInBounds_toArray, List.set_cons_zero, List.set_cons_succ]
                          refine wpAnyH_take (i := 1) (oi := { dst := some 72, op := Op.unOp UnOp.not 4 (Operand.tmp 71), type := 4, pos := _, after := #[{ on := 0, ground := Ground.data }], guard := none }) (v := ?_) rfl (by kernel_rfl) (by kernel_rfl) (by kernel_rfl) (fun _ _ _ h => h) (Or.inl ⟨by rfl, ?_⟩) (by assumption) ?_
                          rotate_left 1
                          · (intro w hSw; (try dsimp only at hSw); go_simp; first | done | with_reducible rfl)
                          try simp only [Act.put, List.setIfInBounds_toArray, List.set_cons_zero, List.set_cons_succ]
                          refine wpAnyH_take (i := 2) (oi := { dst := some 73, op := Op.move (Operand.tmp 72), type := 4, pos := _, after := #[{ on := 1, ground := Ground.data }], guard := none }) (v := ?_) rfl (by kernel_rfl) (by kernel_rfl) (by kernel_rfl) (fun _ _ _ h => h) (Or.inl ⟨by rfl, ?_⟩) (by assumption) ?_
                          rotate_left 1
                          · (intro w hSw; (try dsimp only at hSw); go_simp; first | done | with_reducible rfl)
                          try simp only [Act.put, List.setIfInBounds_toArray, List.set_cons_zero, List.set_cons_succ]
                          refine wpAnyH_take (i := 3) (oi := { dst := some 74, op := Op.fieldAddr 25 (Operand.tmp 12) 0, type := 0, pos := _, after := #[{ on := 2, ground := Ground.guard }], guard := some (2, false) }) (v := ?_) rfl (by kernel_rfl) (by kernel_rfl) (by kernel_rfl) (fun _ _ _ h => h) (Or.inl ⟨by rfl, ?_⟩) (by assumption) ?_
                          rotate_left 1
                          · (intro w hSw; (try dsimp only at hSw); go_simp; first | done | with_reducible rfl)
                          try simp only [Act.put, List.setIfInBounds_toArray, List.set_cons_zero, List.set_cons_succ]
                          refine wpAnyH_take (i := 4) (oi := { dst := some 75, op := Op.load 3 (Operand.tmp 74), type := 3, pos := _, after := #[{ on := 3, ground := Ground.data }, { on := 2, ground := Ground.guard }], guard := some (2, false) }) (v := ?_) rfl (by kernel_rfl) (by kernel_rfl) (by kernel_rfl) (fun _ _ _ h => h) (Or.inl ⟨by rfl, ?_⟩) (by assumption) ?_
                          rotate_left 1
                          · (intro w hSw; (try dsimp only at hSw); go_simp; first | done | with_reducible rfl)
                          try simp only [Act.put, List.setIfInBounds_toArray, List.set_cons_zero, List.set_cons_succ]
                          refine wpAnyH_take (i := 6) (oi := { dst := some 77, op := Op.fieldAddr 25 (Operand.tmp 7) 0, type := 0, pos := _, after := #[{ on := 2, ground := Ground.guard }], guard := some (2, false) }) (v := ?_) rfl (by kernel_rfl) (by kernel_rfl) (by kernel_rfl) (fun _ _ _ h => h) (Or.inl ⟨by rfl, ?_⟩) (by assumption) ?_
                          rotate_left 1
                          · (intro w hSw; (try dsimp only at hSw); go_simp; first | done | with_reducible rfl)
                          try simp only [Act.put, List.setIfInBounds_toArray, List.set_cons_zero, List.set_cons_succ]
                          refine wpAnyH_take (i := 7) (oi := { dst := some 78, op := Op.load 3 (Operand.tmp 77), type := 3, pos := _, after := #[{ on := 6, ground := Ground.data }, { on := 2, ground := Ground.guard }], guard := some (2, false) }) (v := ?_) rfl (by kernel_rfl) (by kernel_rfl) (by kernel_rfl) (fun _ _ _ h => h) (Or.inl ⟨by rfl, ?_⟩) (by assumption) ?_
                          rotate_left 1
                          · (intro w hSw; (try dsimp only at hSw); go_simp; first | done | with_reducible rfl)
                          try simp only [Act.put, List.setIfInBounds_toArray, List.set_cons_zero, List.set_cons_succ]
                          refine wpAnyH_ready (rs := [5]) (by kernel_rfl) (by simp) ?_
                          refine AllReadyH.cons (o := { dst := some 76, op := Op.call { callee := Callee.value (Operand.func 72), args := #[Operand.tmp 75], argTypes := #[3] }, type := 3, pos := _, after := #[{ on := 4, ground := Ground.data }, { on := 2, ground := Ground.chain }, { on := 2, ground := Ground.guard }], guard := some (2, false) }) rfl (fun K hK => ?_) AllReadyH.nil
                          go_simp
                          go_at_call 72
                          refine (KP.out _ hSd).mono ?_
                          rintro e W1 ⟨rfl, hB1⟩
                          go_wp2_with fail
                          refine hK.out _ _ ?_ (fun hHeld => ?_)
                          · exact ⟨Since.cell hB1 s0, Since.cell hB1 b0, hB1⟩
                          clear hK K
                          try simp only [Act.put, List.setIfInBounds_toArray, List.set_cons_zero, List.set_cons_succ]
                          refine wpAnyH_ready (rs := [8]) (by kernel_rfl) (by simp) ?_
                          refine AllReadyH.cons (o := { dst := some 79, op := Op.call { callee := Callee.value (Operand.func 72), args := #[Operand.tmp 78], argTypes := #[3] }, type := 3, pos := _, after := #[{ on := 7, ground := Ground.data }, { on := 5, ground := Ground.chain }, { on := 2, ground := Ground.guard }], guard := some (2, false) }) rfl (fun K hK => ?_) AllReadyH.nil
                          go_simp
                          go_at_call 72
                          refine (KC.out _ hB1).mono ?_
                          rintro e W2 ⟨rfl, hB2⟩
                          go_wp2_with fail
                          refine hK.out _ _ ?_ (fun hHeld => ?_)
                          · exact ⟨Since.cell hB2 s0, Since.cell hB2 b0, hB2⟩
                          clear hK K
                          try simp only [Act.put, List.setIfInBounds_toArray, List.set_cons_zero, List.set_cons_succ]
                          refine wpAnyH_take (i := 9) (oi := { dst := some 80, op := Op.binOp BinOp.lss 3 (Operand.tmp 76) (Operand.tmp 79) 3, type := 4, pos := _, after := #[{ on := 5, ground := Ground.data }, { on := 8, ground := Ground.data }, { on := 2, ground := Ground.guard }], guard := some (2, false) }) (v := ?_) rfl (by kernel_rfl) (by kernel_rfl) (by kernel_rfl) (fun _ _ _ h => h) (Or.inl ⟨by rfl, ?_⟩) (by assumption) ?_
                          rotate_left 1
                          · (intro w hSw; (try dsimp only at hSw); go_simp; first | done | with_reducible rfl)
                          try simp only [Act.put, List.setIfInBounds_toArray, List.set_cons_zero, List.set_cons_succ]
                          refine wpAnyH_take (i := 10) (oi := { dst := some 81, op := Op.pick (Operand.tmp 73) (Operand.const (Value.bool true)) (Operand.tmp 80), type := 4, pos := _, after := #[{ on := 2, ground := Ground.data }, { on := 9, ground := Ground.data }], guard := none }) (v := ?_) rfl (by kernel_rfl) (by kernel_rfl) (by kernel_rfl) (fun _ _ _ h => h) (Or.inl ⟨by rfl, ?_⟩) (by assumption) ?_
                          rotate_left 1
                          · (intro w hSw; (try dsimp only at hSw); go_simp; first | done | with_reducible rfl)
                          try simp only [Act.put, List.setIfInBounds_toArray, List.set_cons_zero, List.set_cons_succ]
                          refine wpAnyH_take (i := 11) (oi := { dst := some 82, op := Op.move (Operand.tmp 81), type := 4, pos := _, after := #[{ on := 10, ground := Ground.data }, { on := 8, ground := Ground.chain }], guard := none }) (v := ?_) rfl (by kernel_rfl) (by kernel_rfl) (by kernel_rfl) (fun _ _ _ h => h) (Or.inl ⟨by rfl, ?_⟩) (by assumption) ?_
                          rotate_left 1
                          · (intro w hSw; (try dsimp only at hSw); go_simp; first | done | with_reducible rfl)
                          try simp only [Act.put, List.setIfInBounds_toArray, List.set_cons_zero, List.set_cons_succ]
                          refine wpAnyH_take (i := 12) (oi := { dst := some 83, op := Op.fieldAddr 25 (Operand.tmp 12) 0, type := 0, pos := _, after := #[{ on := 11, ground := Ground.guard }], guard := some (11, false) }) (v := ?_) rfl (by kernel_rfl) (by kernel_rfl) (by kernel_rfl) (fun _ _ _ h => h) (Or.inl ⟨by rfl, ?_⟩) (by assumption) ?_
                          rotate_left 1
                          · (intro w hSw; (try dsimp only at hSw); go_simp; first | done | with_reducible rfl)
                          try simp only [Act.put, List.setIfInBounds_toArray, List.set_cons_zero, List.set_cons_succ]
                          refine wpAnyH_take (i := 13) (oi := { dst := some 84, op := Op.load 3 (Operand.tmp 83), type := 3, pos := _, after := #[{ on := 12, ground := Ground.data }, { on := 11, ground := Ground.guard }], guard := some (11, false) }) (v := ?_) rfl (by kernel_rfl) (by kernel_rfl) (by kernel_rfl) (fun _ _ _ h => h) (Or.inl ⟨by rfl, ?_⟩) (by assumption) ?_
                          rotate_left 1
                          · (intro w hSw; (try dsimp only at hSw); go_simp; first | done | with_reducible rfl)
                          try simp only [Act.put, List.setIfInBounds_toArray, List.set_cons_zero, List.set_cons_succ]
                          refine wpAnyH_take (i := 15) (oi := { dst := some 86, op := Op.fieldAddr 25 (Operand.tmp 7) 0, type := 0, pos := _, after := #[{ on := 11, ground := Ground.guard }], guard := some (11, false) }) (v := ?_) rfl (by kernel_rfl) (by kernel_rfl) (by kernel_rfl) (fun _ _ _ h => h) (Or.inl ⟨by rfl, ?_⟩) (by assumption) ?_
                          rotate_left 1
                          · (intro w hSw; (try dsimp only at hSw); go_simp; first | done | with_reducible rfl)
                          try simp only [Act.put, List.setIfInBounds_toArray, List.set_cons_zero, List.set_cons_succ]
                          refine wpAnyH_take (i := 16) (oi := { dst := some 87, op := Op.load 3 (Operand.tmp 86), type := 3, pos := _, after := #[{ on := 15, ground := Ground.data }, { on := 11, ground := Ground.guard }], guard := some (11, false) }) (v := ?_) rfl (by kernel_rfl) (by kernel_rfl) (by kernel_rfl) (fun _ _ _ h => h) (Or.inl ⟨by rfl, ?_⟩) (by assumption) ?_
                          rotate_left 1
                          · (intro w hSw; (try dsimp only at hSw); go_simp; first | done | with_reducible rfl)
                          try simp only [Act.put, List.setIfInBounds_toArray, List.set_cons_zero, List.set_cons_succ]
                          refine wpAnyH_ready (rs := [14]) (by kernel_rfl) (by simp) ?_
                          refine AllReadyH.cons (o := { dst := some 85, op := Op.call { callee := Callee.value (Operand.func 72), args := #[Operand.tmp 84], argTypes := #[3] }, type := 3, pos := _, after := #[{ on := 13, ground := Ground.data }, { on := 11, ground := Ground.chain }, { on := 11, ground := Ground.guard }], guard := some (11, false) }) rfl (fun K hK => ?_) AllReadyH.nil
                          go_simp
                          go_at_call 72
                          refine (KP.out _ hB2).mono ?_
                          rintro e W3 ⟨rfl, hB3⟩
                          go_wp2_with fail
                          refine hK.out _ _ ?_ (fun hHeld => ?_)
                          · exact ⟨Since.cell hB3 s0, Since.cell hB3 b0, hB3⟩
                          clear hK K
                          try simp only [Act.put, List.setIfInBounds_toArray, List.set_cons_zero, List.set_cons_succ]
                          refine wpAnyH_ready (rs := [17]) (by kernel_rfl) (by simp) ?_
                          refine AllReadyH.cons (o := { dst := some 88, op := Op.call { callee := Callee.value (Operand.func 72), args := #[Operand.tmp 87], argTypes := #[3] }, type := 3, pos := _, after := #[{ on := 16, ground := Ground.data }, { on := 14, ground := Ground.chain }, { on := 11, ground := Ground.guard }], guard := some (11, false) }) rfl (fun K hK => ?_) AllReadyH.nil
                          go_simp
                          go_at_call 72
                          refine (KC.out _ hB3).mono ?_
                          rintro e W4 ⟨rfl, hB4⟩
                          go_wp2_with fail
                          refine hK.out _ _ ?_ (fun hHeld => ?_)
                          · exact ⟨Since.cell hB4 s0, Since.cell hB4 b0, hB4⟩
                          clear hK K
                          try simp only [Act.put, List.setIfInBounds_toArray, List.set_cons_zero, List.set_cons_succ]
                          refine wpAnyH_take (i := 18) (oi := { dst := some 89, op := Op.binOp BinOp.eql 3 (Operand.tmp 85) (Operand.tmp 88) 3, type := 4, pos := _, after := #[{ on := 14, ground := Ground.data }, { on := 17, ground := Ground.data }, { on := 11, ground := Ground.guard }], guard := some (11, false) }) (v := ?_) rfl (by kernel_rfl) (by kernel_rfl) (by kernel_rfl) (fun _ _ _ h => h) (Or.inl ⟨by rfl, ?_⟩) (by assumption) ?_
                          rotate_left 1
                          · (intro w hSw; (try dsimp only at hSw); go_simp; first | done | with_reducible rfl)
                          try simp only [Act.put, List.setIfInBounds_toArray, List.set_cons_zero, List.set_cons_succ]
                          refine wpAnyH_take (i := 19) (oi := { dst := some 90, op := Op.move (Operand.tmp 89), type := 4, pos := _, after := #[{ on := 18, ground := Ground.data }, { on := 17, ground := Ground.chain }, { on := 11, ground := Ground.guard }], guard := some (11, false) }) (v := ?_) rfl (by kernel_rfl) (by kernel_rfl) (by kernel_rfl) (fun _ _ _ h => h) (Or.inl ⟨by rfl, ?_⟩) (by assumption) ?_
                          rotate_left 1
                          · (intro w hSw; (try dsimp only at hSw); go_simp; first | done | with_reducible rfl)
                          try simp only [Act.put, List.setIfInBounds_toArray, List.set_cons_zero, List.set_cons_succ]
                          refine wpAnyH_take (i := 20) (oi := { dst := some 91, op := Op.fieldAddr 25 (Operand.tmp 12) 0, type := 0, pos := _, after := #[{ on := 19, ground := Ground.guard }], guard := some (19, true) }) (v := undef) rfl (by kernel_rfl) (by kernel_rfl) (by kernel_rfl) (fun _ _ _ h => h) (Or.inr ⟨by rfl, rfl⟩) (by assumption) ?_
                          try simp only [Act.put, List.setIfInBounds_toArray, List.set_cons_zero, List.set_cons_succ]
                          refine wpAnyH_take (i := 21) (oi := { dst := some 92, op := Op.load 3 (Operand.tmp 91), type := 3, pos := _, after := #[{ on := 20, ground := Ground.data }, { on := 19, ground := Ground.guard }], guard := some (19, true) }) (v := undef) rfl (by kernel_rfl) (by kernel_rfl) (by kernel_rfl) (fun _ _ _ h => h) (Or.inr ⟨by rfl, rfl⟩) (by assumption) ?_
                          try simp only [Act.put, List.setIfInBounds_toArray, List.set_cons_zero, List.set_cons_succ]
                          refine wpAnyH_take (i := 22) (oi := { dst := some 93, op := Op.fieldAddr 25 (Operand.tmp 7) 0, type := 0, pos := _, after := #[{ on := 19, ground := Ground.guard }], guard := some (19, true) }) (v := undef) rfl (by kernel_rfl) (by kernel_rfl) (by kernel_rfl) (fun _ _ _ h => h) (Or.inr ⟨by rfl, rfl⟩) (by assumption) ?_
                          try simp only [Act.put, List.setIfInBounds_toArray, List.set_cons_zero, List.set_cons_succ]
                          refine wpAnyH_take (i := 23) (oi := { dst := some 94, op := Op.load 3 (Operand.tmp 93), type := 3, pos := _, after := #[{ on := 22, ground := Ground.data }, { on := 19, ground := Ground.guard }], guard := some (19, true) }) (v := undef) rfl (by kernel_rfl) (by kernel_rfl) (by kernel_rfl) (fun _ _ _ h => h) (Or.inr ⟨by rfl, rfl⟩) (by assumption) ?_
                          try simp only [Act.put, List.setIfInBounds_toArray, List.set_cons_zero, List.set_cons_succ]
                          refine wpAnyH_take (i := 24) (oi := { dst := some 95, op := Op.binOp BinOp.gtr 3 (Operand.tmp 92) (Operand.tmp 94) 3, type := 4, pos := _, after := #[{ on := 21, ground := Ground.data }, { on := 23, ground := Ground.data }, { on := 19, ground := Ground.guard }], guard := some (19, true) }) (v := undef) rfl (by kernel_rfl) (by kernel_rfl) (by kernel_rfl) (fun _ _ _ h => h) (Or.inr ⟨by rfl, rfl⟩) (by assumption) ?_
                          try simp only [Act.put, List.setIfInBounds_toArray, List.set_cons_zero, List.set_cons_succ]
                          refine wpAnyH_take (i := 25) (oi := { dst := some 96, op := Op.pick (Operand.tmp 90) (Operand.tmp 95) (Operand.const (Value.bool false)), type := 4, pos := _, after := #[{ on := 19, ground := Ground.data }, { on := 24, ground := Ground.data }, { on := 11, ground := Ground.guard }], guard := some (11, false) }) (v := ?_) rfl (by kernel_rfl) (by kernel_rfl) (by kernel_rfl) (fun _ _ _ h => h) (Or.inl ⟨by rfl, ?_⟩) (by assumption) ?_
                          rotate_left 1
                          · (intro w hSw; (try dsimp only at hSw); go_simp; first | done | with_reducible rfl)
                          try simp only [Act.put, List.setIfInBounds_toArray, List.set_cons_zero, List.set_cons_succ]
                          refine wpAnyH_take (i := 26) (oi := { dst := some 97, op := Op.pick (Operand.tmp 82) (Operand.const (Value.bool true)) (Operand.tmp 96), type := 4, pos := _, after := #[{ on := 11, ground := Ground.data }, { on := 25, ground := Ground.data }], guard := none }) (v := ?_) rfl (by kernel_rfl) (by kernel_rfl) (by kernel_rfl) (fun _ _ _ h => h) (Or.inl ⟨by rfl, ?_⟩) (by assumption) ?_
                          rotate_left 1
                          · (intro w hSw; (try dsimp only at hSw); go_simp; first | done | with_reducible rfl)
                          try simp only [Act.put, List.setIfInBounds_toArray, List.set_cons_zero, List.set_cons_succ]
                          refine wpAnyH_done (by kernel_rfl) ?_ _
                          refine NoPanic.normal ?_
                          have HBB := Lib.hid hB4
                          clear hB1 hB2 hB3 hB4 hSd hS0
                          go_wp2_with fail
                          go_meet
                          exact ⟨by rw [HBT.out], HBB⟩
                    case rest =>
                      obtain ⟨rfl, hS7⟩ := hcut
                      rename World => w7
                      have HX7 := Lib.hid (HX6.out.keep hS7.out)
                      have HS7 := Lib.hid (HS6.out.below hS7.out)
                      have HB7 := Lib.hid (HB6.out.trans (hS7.out.mono (by have := HB6.out.size; have := X1.out.1; omega)))
                      have XP7 := Lib.hid (XP6.out.keep hS7.out)
                      have hstep := HSTP.out
                      have hbbs := HBBT.out
                      generalize betterB b2 (p, (d : Int)) = T at *
                      obtain ⟨s0, s1, -, -, s4⟩ := XP7.out.open2
                      obtain ⟨b0, b1, b2', b3', b4⟩ := HX7.out.open2
                      clear XP6 HX6 HS6 HB6 hS7 HSTP HBBT hS0 hSd
                      cases T
                      case false =>
                        have hs2 : b2 = ((nearL x (d : Int)).take (k + 1)).foldl (step4 x (d : Int)) bo := by rw [← HBN.out, ← hstep]; simp
                        have HS2 := Lib.hid hs2
                        clear hstep hbbs hs2 hF
                        go_wp2
                        go_roundw
                        case rel => exact ⟨k + 1, b2, by omega, by go_num, rfl, HS2, hbb2, HX7, HS7, HB7⟩
                        case measure => simp [intOf]; omega
                      case true =>
                        simp only [if_true] at hstep hbbs
                        have HS2 : Hid (some (p, (d : Int)) = ((nearL x (d : Int)).take (k + 1)).foldl (step4 x (d : Int)) bo) := Lib.hid (by rw [← HBN.out, ← hstep])
                        have HBS := Lib.hid hbbs
                        have HX8 := Lib.hid (HX7.out.store2 (.int .i64 p) (.int .i64 (d : Int)))
                        have HS8 := Lib.hid ((HS7.out.set (o := 0) (v := .int .i64 p)).set (o := 1) (v := .int .i64 (d : Int)))
                        have hNB2 : w.heap.size + 1 ≤ NB := hwr
                        have HB8 := Lib.hid ((HB7.out.setCell (p := ⟨NB, 0, none⟩) hNB2 (.int .i64 p)).setCell (p := ⟨NB, 1, none⟩) hNB2 (.int .i64 (d : Int)))
                        clear hstep hbbs hF HX7 HS7 HB7
                        go_wp2
                        go_roundw
                        case rel => exact ⟨k + 1, some (p, (d : Int)), by omega, by go_num, rfl, HS2, HBS, HX8, HS8, HB8⟩
                        case measure => simp [intOf]; omega
              · have k1 : ¬ (k : Int) < nl := by omega
                have HB2' : Hid (b2 = (xs.take (i + 1)).foldl (row4 (d : Int)) none) := Lib.hid (HST.out b2 (by have := hb2.out; rwa [List.take_of_length_le (by rw [← HNLN.out]; omega)] at this))
                clear HST hb2
                go_wp2
                go_roundw
                case rel => exact ⟨i + 1, b2, by omega, by go_num, rfl, HB2', hbb2, hX, hB⟩
                case measure => simp [intOf]; omega
          · have i1 : ¬ (i : Int) < n := by omega
            have hb4 : bo = best4 xs (d : Int) := by rw [hbo.out, List.take_of_length_le (by rw [HN.out]; omega)]; rfl
            by_cases hdl : d < D
            · have hnone := HB1.out (d : Int) (by omega) (by omega)
              rw [hnone] at hb4
              subst hb4
              clear hnone hbo
              go_wp2
              go_roundw
              case rel => exact ⟨d + 1, by omega, by omega, by go_num, hB⟩
              case measure => simp [intOf]; omega
            · have hde : d = D := by omega
              subst hde
              have hsome := HB2.out
              rw [hsome] at hb4
              subst hb4
              have hBw := Lib.hid (H1.out.trans (hB.out.mono (Nat.le_succ _)))
              have X2 := Lib.hid (boxl_keepB X1.out (Nat.lt_succ_self _) hB.out)
              have hXX := hX.out
              unfold bestV at hXX
              simp only [Option.getD_some] at hXX
              obtain ⟨s0, s1, s2, s3, s4⟩ := hXX.open2
              obtain ⟨r0, r1, r2, r3, r4⟩ := X2.out.open2
              clear hsome hbo hX hXX
              go_wp2
              with_reducible refine bodyPost_end2 (B := w.heap.size) (w := w) (z0 := .int .i64 0) (z1 := .int .i64 0) (v := .tuple #[.agg #[.int .i64 rn, .int .i64 (d : Int)], .bool true, .int .i64 0]) ?hX ?hB ?hN ?hd ?hr ?hQ
              case hQ =>
                intro W h
                exact HP.out _ h
              case hX => exact X2.out
              case hB => exact hBw.out
              case hN => exact Nat.le_refl _
              case hd => rfl
              case hr =>
                intro W h
                obtain ⟨o0, o1, -, -, o2⟩ := h.open2
                clear h
                simp [results, Try.results35, go_sem, o0, o1]

end Go.Proofs.Ytimbgjpjgbjnkaa
