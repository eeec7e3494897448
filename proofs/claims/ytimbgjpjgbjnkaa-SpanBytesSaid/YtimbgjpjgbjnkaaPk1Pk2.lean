import Derived.Test.YtimbgjpjgbjnkaaPaPb
import Derived.Test.YtimbgjpjgbjnkaaSp7
/- Contracts of package span: bySimplicity, slices.MinFunc. -/
namespace Go.Proofs.Ytimbgjpjgbjnkaa
open Go.RowKit Go.Shelf

def cmp3 (x y : Int) : Int := if x < y then -1 else if y < x then 1 else 0

/-- The first number that is not 0. -/
def firstNZ : List Int → Int | [] => 0 | x :: r => if x = 0 then firstNZ r else x

theorem firstNZ_take (zs : List Int) (k : Nat) (h : ∀ z ∈ zs.take k, z = 0) : firstNZ zs = firstNZ (zs.drop k) := by
  induction zs generalizing k with
  | nil => simp
  | cons x r ih =>
    cases k with
    | zero => rfl
    | succ k =>
      rw [List.drop_succ_cons, ← ih k (fun y hy => h y (by rw [List.take_succ_cons]; exact List.mem_cons_of_mem _ hy))]
      have := h x (by rw [List.take_succ_cons]; exact List.mem_cons_self ..)
      show (if x = 0 then firstNZ r else x) = _
      rw [if_pos this]

set_option maxHeartbeats 2000000 in
theorem or_any (a : Option Addr) (n c : Nat) (zs : List Int) (w : World) (h : Els .i64 w (.slice a n c) zs) (hl : zs.length ≤ 1000000) :
    Calls Try.prog 96 #[.slice a n c] w fun e w' => e = .returned (.int .i64 (firstNZ zs)) ∧ w = w' := by
  have hn := h.len
  have HE := Lib.hid h
  have HN := Lib.hid hn
  have hnl : n ≤ 1000000 := by omega
  clear h hn hl
  go_enter Try.func96, Try.ntmps96
  go_wp2
  go_loop [8] (fun x => ∃ k : Nat, k ≤ n ∧ x = .int .i64 k ∧ Hid (∀ z ∈ zs.take k, z = 0)) (fun x => n - (intOf x).toNat)
  case atStart => exact ⟨0, by omega, rfl, fun z hz => by simp at hz⟩
  case round =>
    obtain ⟨k, hk, rfl, hF⟩ := hrel
    by_cases hlt : k < n
    · have hki : (k : Int) < n := by omega
      obtain ⟨b, off, rfl, hc⟩ := HE.out.at k hlt
      have hzk : zs[k]? = some (zs[k]?.getD 0) := by rw [List.getElem?_eq_getElem (by rw [← HN.out]; exact hlt)]; rfl
      have HZ := Lib.hid hzk
      generalize zs[k]?.getD 0 = z at *
      clear hzk
      by_cases h0 : z = 0
      · have hF2 : Hid (∀ y ∈ zs.take (k + 1), y = 0) := fun y hy => by
          rw [List.take_add_one, HZ.out, List.mem_append] at hy
          rcases hy with hy | hy
          · exact hF.out y hy
          · simp at hy
            rw [hy]
            exact h0
        subst h0
        go_wp2
        go_round
        case rel => exact ⟨k + 1, by omega, by go_num, hF2⟩
        case measure => simp [intOf]; omega
      · have hz : (z != 0) = true := by simpa using h0
        have hR : Hid (firstNZ zs = z) := Lib.hid (by
          rw [firstNZ_take zs k hF.out]
          obtain ⟨hkl, e⟩ := List.getElem?_eq_some_iff.1 HZ.out
          rw [List.drop_eq_getElem_cons hkl, e]
          show (if z = 0 then _ else z) = z
          rw [if_neg h0])
        clear h0
        go_wp2
        go_ret
        exact ⟨ret_int hR.out.symm, rfl⟩
    · have hki : (n : Int) ≤ (k : Int) := by omega
      have hR : Hid (firstNZ zs = 0) := Lib.hid (by
        rw [firstNZ_take zs k hF.out, List.drop_of_length_le (by rw [← HN.out]; omega)]
        rfl)
      go_wp2
      go_ret
      exact ⟨ret_int hR.out.symm, rfl⟩

def absZ (n : Int) : Int := max n (-n)

/-- How simple two ratios are. -/
def smpC (p q : Int × Int) : Int := firstNZ [cmp3 p.2 q.2, cmp3 (absZ p.1) (absZ q.1), cmp3 q.1 p.1]

set_option maxHeartbeats 8000000 in
set_option maxRecDepth 100000 in
theorem bysimp_any (p q : Int × Int) (w : World) (hp : Qm.Ok p.1 p.2) (hq : Qm.Ok q.1 q.2) :
    Calls Try.prog 70 #[rv p.1 p.2, rv q.1 q.2] w fun e w' => e = .returned (.int .i64 (smpC p q)) ∧ Below w.heap.size w w' := by
  unfold smpC
  have h1 := hp.2.2.1
  have h2 := hp.2.2.2.1
  have h3 := hq.2.2.1
  have h4 := hq.2.2.2.1
  obtain ⟨n, d⟩ := p
  obtain ⟨m, f⟩ := q
  simp only at *
  clear hp hq
  have kc := fun (x y : Int) W => (compare_any x y W).mono (R' := fun e w' => e = .returned (.int .i64 (cmp3 x y)) ∧ W = w') fun e w' hh => hh
  have KC := Lib.hid kc
  have KO := Lib.hid fun (x y z : Int) (W : World) (T : TypeId) => or_any (some ⟨W.heap.size, 0, none⟩) 3 3 [x, y, z] (W.alloc (.cells #[.int .i64 x, .int .i64 y, .int .i64 z] T)).drew (.inr ⟨W.heap.size, 0, 3, by show _ < (W.alloc _).heap.size; simp, rfl, Nat.le_refl _, fun j hj => by
    have hX := BoxL.made W #[.int .i64 x, .int .i64 y, .int .i64 z] T
    rw [Nat.zero_add]
    match j, hj with
    | 0, _ => exact (hX.2 0 _ rfl).1
    | 1, _ => exact (hX.2 1 _ rfl).1
    | 2, _ => exact (hX.2 2 _ rfl).1⟩) (by simp)
  clear kc
  unfold rv
  have XA := Lib.hid ((BoxL.made w #[.int .i64 n, .int .i64 d] 25).under (.cells #[.int .i64 m, .int .i64 f] 25))
  have xb := BoxL.made (w.alloc (.cells #[.int .i64 n, .int .i64 d] 25)) #[.int .i64 m, .int .i64 f] 25
  rw [size_alloc] at xb
  have XB := Lib.hid xb
  have HB0 := Lib.hid (((Below.refl w.heap.size w).alloc (Nat.le_refl _) (.cells #[.int .i64 n, .int .i64 d] 25)).alloc (by simp) (.cells #[.int .i64 m, .int .i64 f] 25))
  clear xb
  have hneg1 : IntKind.i64.wrap (-n) = -n := IntWalk.i64_in _ (by omega)
  have hneg2 : IntKind.i64.wrap (-m) = -m := IntWalk.i64_in _ (by omega)
  unfold absZ
  go_enter Try.func70, Try.ntmps70
  go_upto_region 1 with (fail)
  generalize (w.alloc (.cells #[.int .i64 n, .int .i64 d] 25)).alloc (.cells #[.int .i64 m, .int .i64 f] 25) = W1 at *
  obtain ⟨x0, x1, -, -, x2⟩ := XA.out.open2
  obtain ⟨y0, y1, -, -, y2⟩ := XB.out.open2
  have hSd : Since W1 W1.drew := Below.drew (Below.refl _ _)
  have hSa : ∀ o, Since W1 ((W1.alloc o).drew) := fun o => Below.drew (Below.alloc (Below.refl _ _) (Nat.le_refl _) o)
  have HSA := Lib.hid hSa
  clear hSa
  go_region_held3 (fun w' => w'.cell? ⟨w.heap.size, 0, none⟩ = some (.int .i64 n) ∧ w'.cell? ⟨w.heap.size, 1, none⟩ = some (.int .i64 d) ∧ w'.cell? ⟨w.heap.size + 1, 0, none⟩ = some (.int .i64 m) ∧ w'.cell? ⟨w.heap.size + 1, 1, none⟩ = some (.int .i64 f) ∧ Since W1 w')
    (first | exact ⟨x0, x1, y0, y1, hSd⟩ | exact ⟨Since.cell (HSA.out _) x0, Since.cell (HSA.out _) x1, Since.cell (HSA.out _) y0, Since.cell (HSA.out _) y1, HSA.out _⟩)
    ((first
      | (go_at_call 93; refine (KC.out _ _ _).mono ?_; rintro e w' ⟨rfl, rfl⟩)
      | (go_at_call 96; refine (KO.out _ _ _ _ _).mono ?_; rintro e w' ⟨rfl, rfl⟩)))
  all_goals
    have HBB := Lib.hid (HB0.out.trans (Below.mono (HSA.out (.cells #[.int .i64 (cmp3 d f), .int .i64 (cmp3 (max n (-n)) (max m (-m))), .int .i64 (cmp3 m n)] 3)) HB0.out.size))
    go_wp2
    go_ret
    exact ⟨rfl, HBB.out⟩

end Go.Proofs.Ytimbgjpjgbjnkaa

/- Contracts of package span: slices.MinFunc at simplicity. -/
namespace Go.Proofs.Ytimbgjpjgbjnkaa
open Go.RowKit Go.Shelf

/-- The first of the simplest. -/
def minP : (Int × Int) → List (Int × Int) → (Int × Int) | m, [] => m | m, p :: r => minP (if smpC p m < 0 then p else m) r

theorem minP_snoc (m : Int × Int) (l : List (Int × Int)) (p : Int × Int) : minP m (l ++ [p]) = if smpC p (minP m l) < 0 then p else minP m l := by
  induction l generalizing m with
  | nil => rfl
  | cons q r ih => exact ih _

theorem minP_mem (m : Int × Int) (l : List (Int × Int)) : minP m l = m ∨ minP m l ∈ l := by
  induction l generalizing m with
  | nil => exact .inl rfl
  | cons q r ih =>
    rcases ih (if smpC q m < 0 then q else m) with h | h
    · by_cases hq : smpC q m < 0
      · rw [if_pos hq] at h
        exact .inr (by show minP (if smpC q m < 0 then q else m) r ∈ _; rw [if_pos hq, h]; exact List.mem_cons_self ..)
      · rw [if_neg hq] at h
        exact .inl (by show minP (if smpC q m < 0 then q else m) r = _; rw [if_neg hq]; exact h)
    · exact .inr (List.mem_cons_of_mem _ h)

theorem BoxL.store2 {W : World} {N : Nat} {a b : Value} (h : BoxL N [a, b] W) (x y : Value) : BoxL N [x, y] ((W.setCell ⟨N, 0, none⟩ x).setCell ⟨N, 1, none⟩ y) := (h.set 0 x (by simp)).set 1 y (by simp)

/-- A function's end behind the store of its named result, a struct of two cells. -/
theorem bodyPost_end2 {prog : Program} {f : Func} {Q : Ending → World → Prop} {act : Act} {wx w : World} {B N : Nat} {z0 z1 x0 x1 v : Value} (hX : BoxL N [z0, z1] wx) (hB : Below B w wx) (hN : B ≤ N) (hd : act.defers = []) (hr : ∀ W, BoxL N [x0, x1] W → (results f act.tmps).run prog W = .ok v W) (hQ : ∀ W, Below B w W → Q (.returned v) W) :
    bodyPost prog f Q .ret act ((wx.setCell ⟨N, 0, none⟩ x0).setCell ⟨N, 1, none⟩ x1) :=
  bodyPost_ret (hr _ (hX.store2 x0 x1)) hd (hQ _ ((hB.setCell (p := ⟨N, 0, none⟩) hN x0).setCell (p := ⟨N, 1, none⟩) hN x1))

set_option maxHeartbeats 8000000 in
set_option maxRecDepth 100000 in
theorem min_any (b n c : Nat) (p0 : Int × Int) (P : List (Int × Int)) (w : World) (h : REls RRat w (.slice (some ⟨b, 0, none⟩) n c) (p0 :: P)) (hok : ∀ p ∈ p0 :: P, Qm.Ok p.1 p.2) (hl : P.length ≤ 1000000) :
    Calls Try.prog 69 #[.slice (some ⟨b, 0, none⟩) n c, .func (.func 70) #[] #[]] w fun e w' => e = .returned (rv (minP p0 P).1 (minP p0 P).2) ∧ Below w.heap.size w w' := by
  have hn := h.len
  rw [List.length_cons] at hn
  have HE := Lib.hid h
  have HN := Lib.hid hn
  have HOK := Lib.hid hok
  obtain ⟨g0, g1, -⟩ := rat_at h (j := 0) rfl
  simp only [Nat.zero_mul, Nat.zero_add] at g0 g1
  have hn1 : (1 : Int) ≤ n := by omega
  have hn2 : (0 : Int) < n := by omega
  have hn3 : 0 < n := by omega
  have hnl : n ≤ 1000001 := by omega
  have hS1 : Since w (w.alloc (.cells #[.int .i64 0, .int .i64 0] 25)) := Below.alloc (Below.refl _ _) (Nat.le_refl _) _
  have f0 := Since.cell hS1 g0
  have f1 := Since.cell hS1 g1
  clear h hok hn hl hS1
  have XR := Lib.hid ((BoxL.made w #[.int .i64 0, .int .i64 0] 25).under (.cells #[.int .i64 p0.1, .int .i64 p0.2] 25))
  have xm := BoxL.made (w.alloc (.cells #[.int .i64 0, .int .i64 0] 25)) #[.int .i64 p0.1, .int .i64 p0.2] 25
  rw [size_alloc] at xm
  have XM := Lib.hid xm
  have HB0 := Lib.hid (((Below.refl w.heap.size w).alloc (Nat.le_refl _) (.cells #[.int .i64 0, .int .i64 0] 25)).alloc (by simp) (.cells #[.int .i64 p0.1, .int .i64 p0.2] 25))
  clear xm
  unfold rv
  go_enter Try.func69, Try.ntmps69
  go_wp2_with fail
  go_loopw [6] (fun x wr => ∃ k : Nat, 1 ≤ k ∧ k ≤ n ∧ x = .int .i64 k ∧ Hid (BoxL (w.heap.size + 1) [.int .i64 (minP p0 (P.take (k - 1))).1, .int .i64 (minP p0 (P.take (k - 1))).2] wr) ∧ Hid (BoxL w.heap.size [.int .i64 0, .int .i64 0] wr) ∧ Hid (Below w.heap.size w wr)) (fun x _ => n - (intOf x).toNat)
  case atStart => exact ⟨1, by omega, by omega, rfl, XM, XR, HB0⟩
  case round =>
    obtain ⟨k, hk1, hk, rfl, hM, hR, hB⟩ := hrel
    clear g0 g1 f0 f1 XR XM HB0
    by_cases hlt : k < n
    · have hki : (k : Int) < n := by omega
      obtain ⟨p, hp⟩ : ∃ p, (p0 :: P)[k]? = some p := ⟨(p0 :: P)[k]'(by rw [List.length_cons, ← HN.out]; exact hlt), List.getElem?_eq_getElem _⟩
      obtain ⟨g0, g1, -⟩ := rat_at (HE.out.below hB.out) hp
      have hpP : P[k - 1]? = some p := by
        have := hp
        rw [show k = k - 1 + 1 by omega, List.getElem?_cons_succ] at this
        exact this
      have hstep : Hid (minP p0 (P.take (k + 1 - 1)) = if smpC p (minP p0 (P.take (k - 1))) < 0 then p else minP p0 (P.take (k - 1))) := Lib.hid (by
        rw [show k + 1 - 1 = k - 1 + 1 by omega, List.take_add_one, hpP]
        exact minP_snoc _ _ _)
      have hmok : Qm.Ok (minP p0 (P.take (k - 1))).1 (minP p0 (P.take (k - 1))).2 := by
        rcases minP_mem p0 (P.take (k - 1)) with h | h
        · rw [h]; exact HOK.out _ (List.mem_cons_self ..)
        · exact HOK.out _ (List.mem_cons_of_mem _ (List.mem_of_mem_take h))
      have kb := fun W => bysimp_any p (minP p0 (P.take (k - 1))) W (HOK.out p (List.mem_of_getElem? hp)) hmok
      generalize minP p0 (P.take (k - 1)) = M at *
      generalize hcv : smpC p M = cv at *
      have KB := Lib.hid kb
      clear kb hp hpP hmok hcv
      obtain ⟨pn, pd⟩ := p
      obtain ⟨mn, md⟩ := M
      unfold rv at KB
      simp only at *
      obtain ⟨m0, m1, m2, m3, m4⟩ := hM.out.open2
      have hSd : Since wr wr.drew := Below.drew (Below.refl _ _)
      go_wp2_with fail
      go_region_held3 (fun w' => w'.cell? ⟨b, k * 2, none⟩ = some (.int .i64 pn) ∧ w'.cell? ⟨b, k * 2 + 1, none⟩ = some (.int .i64 pd) ∧ w'.cell? ⟨w.heap.size + 1, 0, none⟩ = some (.int .i64 mn) ∧ w'.cell? ⟨w.heap.size + 1, 1, none⟩ = some (.int .i64 md) ∧ Since wr w')
        (first | exact ⟨g0, g1, m0, m1, hSd⟩ | exact ⟨Since.cell hB2 g0, Since.cell hB2 g1, Since.cell hB2 m0, Since.cell hB2 m1, hB2⟩)
        ((go_at_call 70; refine (KB.out _).mono ?_; rintro e w' ⟨rfl, hr⟩; have hB2 := Since.step hSd hr; clear hr))
      have HBB := Lib.hid (hB.out.trans (Below.mono hB2 hB.out.size))
      have XM2 := Lib.hid (hM.out.keep hB2)
      have XR2 := Lib.hid (hR.out.keep hB2)
      have q0 := Since.cell hB2 g0
      have q1 := Since.cell hB2 g1
      clear hB2 hSd g0 g1 m0 m1 m2 m3 m4 hB hM hR
      obtain ⟨m0, m1, m2, m3, m4⟩ := XM2.out.open2
      by_cases hc : cv < 0
      · have hs2 : Hid (minP p0 (P.take (k + 1 - 1)) = (pn, pd)) := Lib.hid (by rw [hstep.out, if_pos hc])
        have XM3 := Lib.hid (XM2.out.store2 (.int .i64 pn) (.int .i64 pd))
        have XR3 := Lib.hid ((XR2.out.other (N := w.heap.size + 1) (k := 0) (v := .int .i64 pn) (by omega)).other (N := w.heap.size + 1) (k := 1) (v := .int .i64 pd) (by omega))
        have HB3 := Lib.hid ((HBB.out.setCell (p := ⟨w.heap.size + 1, 0, none⟩) (Nat.le_succ _) (.int .i64 pn)).setCell (p := ⟨w.heap.size + 1, 1, none⟩) (Nat.le_succ _) (.int .i64 pd))
        go_wp2
        go_roundw
        case rel => exact ⟨k + 1, by omega, by omega, by go_num, Lib.hid (by rw [hs2.out]; exact XM3.out), XR3, HB3⟩
        case measure => simp [intOf]; omega
      · have hs2 : Hid (minP p0 (P.take (k + 1 - 1)) = (mn, md)) := Lib.hid (by rw [hstep.out, if_neg hc])
        go_wp2
        go_roundw
        case rel => exact ⟨k + 1, by omega, by omega, by go_num, Lib.hid (by rw [hs2.out]; exact XM2.out), XR2, HBB⟩
        case measure => simp [intOf]; omega
    · have hki : (n : Int) ≤ (k : Int) := by omega
      have hfull : Hid (P.take (k - 1) = P) := Lib.hid (List.take_of_length_le (by have := HN.out; omega))
      have hM2 := hM.out
      rw [hfull.out] at hM2
      have XM2 := Lib.hid hM2
      clear hM hM2 hfull
      generalize hMM : minP p0 P = M at *
      have HMM := Lib.hid hMM
      clear hMM
      obtain ⟨mn, md⟩ := M
      simp only at *
      obtain ⟨m0, m1, m2, m3, m4⟩ := XM2.out.open2
      obtain ⟨r0, r1, r2, r3, r4⟩ := hR.out.open2
      go_wp2
      with_reducible refine bodyPost_end2 (B := w.heap.size) (w := w) (z0 := .int .i64 0) (z1 := .int .i64 0) (v := .agg #[.int .i64 mn, .int .i64 md]) ?hX ?hB ?hN ?hd ?hr ?hQ
      case hQ =>
        intro W h
        exact ⟨by rw [HMM.out], h⟩
      case hX => exact hR.out
      case hB => exact hB.out
      case hN => exact Nat.le_refl _
      case hd => rfl
      case hr =>
        intro W h
        obtain ⟨o0, o1, -, -, o2⟩ := h.open2
        clear h
        simp [results, Try.results69, go_sem, o0, o1]

end Go.Proofs.Ytimbgjpjgbjnkaa

