/- Contracts of package span: bySimplicity, slices.MinFunc. -/
import Derived.Test.YthjnodmhfhoilaaPb
import Derived.Test.YthjnodmhfhoilaaSp7
namespace Go.Proofs.Ythjnodmhfhoilaa
open Go.RowKit Go.Shelf

def cmp3 (x y : Int) : Int := if x < y then -1 else if y < x then 1 else 0

/-- The first number that is not 0. -/
def firstNZ : List Int → Int | [] => 0 | x :: r => if x = 0 then firstNZ r else x

theorem firstNZ_take (zs : List Int) (k : Nat) (h : ∀ z ∈ zs.take k, z = 0) : firstNZ zs = firstNZ (zs.drop k) := by
  induction zs generalizing k with
  | nil => simp
  | cons x r ih =>
    cases k with
    | zero => rfl
    | succ k =>
      rw [List.drop_succ_cons, ← ih k (fun y hy => h y (by rw [List.take_succ_cons]; exact List.mem_cons_of_mem _ hy))]
      have := h x (by rw [List.take_succ_cons]; exact List.mem_cons_self ..)
      show (if x = 0 then firstNZ r else x) = _
      rw [if_pos this]

set_option maxHeartbeats 2000000 in
theorem or_any (a : Option Addr) (n c : Nat) (zs : List Int) (w : World) (h : Els .i64 w (.slice a n c) zs) (hl : zs.length ≤ 1000000) :
    Calls Try.prog 96 #[.slice a n c] w fun e w' => e = .returned (.int .i64 (firstNZ zs)) ∧ w = w' := by
  have hn := h.len
  have HE := Lib.hid h
  have HN := Lib.hid hn
  have hnl : n ≤ 1000000 := by omega
  clear h hn hl
  go_enter Try.func96, Try.ntmps96
  go_wp2
  go_loop [8] (fun x => ∃ k : Nat, k ≤ n ∧ x = .int .i64 k ∧ Hid (∀ z ∈ zs.take k, z = 0)) (fun x => n - (intOf x).toNat)
  case atStart => exact ⟨0, by omega, rfl, fun z hz => by simp at hz⟩
  case round =>
    obtain ⟨k, hk, rfl, hF⟩ := hrel
    by_cases hlt : k < n
    · have hki : (k : Int) < n := by omega
      obtain ⟨b, off, rfl, hc⟩ := HE.out.at k hlt
      have hzk : zs[k]? = some (zs[k]?.getD 0) := by rw [List.getElem?_eq_getElem (by rw [← HN.out]; exact hlt)]; rfl
      have HZ := Lib.hid hzk
      generalize zs[k]?.getD 0 = z at *
      clear hzk
      by_cases h0 : z = 0
      · have hF2 : Hid (∀ y ∈ zs.take (k + 1), y = 0) := fun y hy => by
          rw [List.take_add_one, HZ.out, List.mem_append] at hy
          rcases hy with hy | hy
          · exact hF.out y hy
          · simp at hy
            rw [hy]
            exact h0
        subst h0
        go_wp2
        go_round
        case rel => exact ⟨k + 1, by omega, by go_num, hF2⟩
        case measure => simp [intOf]; omega
      · have hz : (z != 0) = true := by simpa using h0
        have hR : Hid (firstNZ zs = z) := Lib.hid (by
          rw [firstNZ_take zs k hF.out]
          obtain ⟨hkl, e⟩ := List.getElem?_eq_some_iff.1 HZ.out
          rw [List.drop_eq_getElem_cons hkl, e]
          show (if z = 0 then _ else z) = z
          rw [if_neg h0])
        clear h0
        go_wp2
        go_ret
        exact ⟨ret_int hR.out.symm, rfl⟩
    · have hki : (n : Int) ≤ (k : Int) := by omega
      have hR : Hid (firstNZ zs = 0) := Lib.hid (by
        rw [firstNZ_take zs k hF.out, List.drop_of_length_le (by rw [← HN.out]; omega)]
        rfl)
      go_wp2
      go_ret
      exact ⟨ret_int hR.out.symm, rfl⟩

def absZ (n : Int) : Int := max n (-n)

/-- How simple two ratios are. -/
def smpC (p q : Int × Int) : Int := firstNZ [cmp3 p.2 q.2, cmp3 (absZ p.1) (absZ q.1), cmp3 q.1 p.1]

set_option maxHeartbeats 8000000 in
set_option maxRecDepth 100000 in
theorem bysimp_any (p q : Int × Int) (w : World) (hp : Qm.Ok p.1 p.2) (hq : Qm.Ok q.1 q.2) :
    Calls Try.prog 70 #[rv p.1 p.2, rv q.1 q.2] w fun e w' => e = .returned (.int .i64 (smpC p q)) ∧ Below w.heap.size w w' := by
  unfold smpC
  have h1 := hp.2.2.1
  have h2 := hp.2.2.2.1
  have h3 := hq.2.2.1
  have h4 := hq.2.2.2.1
  obtain ⟨n, d⟩ := p
  obtain ⟨m, f⟩ := q
  simp only at *
  clear hp hq
  have kc := fun (x y : Int) W => (compare_any x y W).mono (R' := fun e w' => e = .returned (.int .i64 (cmp3 x y)) ∧ W = w') fun e w' hh => hh
  have KC := Lib.hid kc
  have KO := Lib.hid fun (x y z : Int) (W : World) (T : TypeId) => or_any (some ⟨W.heap.size, 0, none⟩) 3 3 [x, y, z] (W.alloc (.cells #[.int .i64 x, .int .i64 y, .int .i64 z] T)).drew (.inr ⟨W.heap.size, 0, 3, by show _ < (W.alloc _).heap.size; simp, rfl, Nat.le_refl _, fun j hj => by
    have hX := BoxL.made W #[.int .i64 x, .int .i64 y, .int .i64 z] T
    rw [Nat.zero_add]
    match j, hj with
    | 0, _ => exact (hX.2 0 _ rfl).1
    | 1, _ => exact (hX.2 1 _ rfl).1
    | 2, _ => exact (hX.2 2 _ rfl).1⟩) (by simp)
  clear kc
  unfold rv
  have XA := Lib.hid ((BoxL.made w #[.int .i64 n, .int .i64 d] 25).under (.cells #[.int .i64 m, .int .i64 f] 25))
  have xb := BoxL.made (w.alloc (.cells #[.int .i64 n, .int .i64 d] 25)) #[.int .i64 m, .int .i64 f] 25
  rw [size_alloc] at xb
  have XB := Lib.hid xb
  have HB0 := Lib.hid (((Below.refl w.heap.size w).alloc (Nat.le_refl _) (.cells #[.int .i64 n, .int .i64 d] 25)).alloc (by simp) (.cells #[.int .i64 m, .int .i64 f] 25))
  clear xb
  have hneg1 : IntKind.i64.wrap (-n) = -n := IntWalk.i64_in _ (by omega)
  have hneg2 : IntKind.i64.wrap (-m) = -m := IntWalk.i64_in _ (by omega)
  unfold absZ
  go_enter Try.func70, Try.ntmps70
  go_upto_region 1 with (fail)
  generalize (w.alloc (.cells #[.int .i64 n, .int .i64 d] 25)).alloc (.cells #[.int .i64 m, .int .i64 f] 25) = W1 at *
  obtain ⟨x0, x1, -, -, x2⟩ := XA.out.open2
  obtain ⟨y0, y1, -, -, y2⟩ := XB.out.open2
  have hSd : Since W1 W1.drew := Below.drew (Below.refl _ _)
  have hSa : ∀ o, Since W1 ((W1.alloc o).drew) := fun o => Below.drew (Below.alloc (Below.refl _ _) (Nat.le_refl _) o)
  have HSA := Lib.hid hSa
  clear hSa
  go_region_held3 (fun w' => w'.cell? ⟨w.heap.size, 0, none⟩ = some (.int .i64 n) ∧ w'.cell? ⟨w.heap.size, 1, none⟩ = some (.int .i64 d) ∧ w'.cell? ⟨w.heap.size + 1, 0, none⟩ = some (.int .i64 m) ∧ w'.cell? ⟨w.heap.size + 1, 1, none⟩ = some (.int .i64 f) ∧ Since W1 w')
    (first | exact ⟨x0, x1, y0, y1, hSd⟩ | exact ⟨Since.cell (HSA.out _) x0, Since.cell (HSA.out _) x1, Since.cell (HSA.out _) y0, Since.cell (HSA.out _) y1, HSA.out _⟩)
    ((first
      | (go_at_call 93; refine (KC.out _ _ _).mono ?_; rintro e w' ⟨rfl, rfl⟩)
      | (go_at_call 96; refine (KO.out _ _ _ _ _).mono ?_; rintro e w' ⟨rfl, rfl⟩)))
  all_goals
    have HBB := Lib.hid (HB0.out.trans (Below.mono (HSA.out (.cells #[.int .i64 (cmp3 d f), .int .i64 (cmp3 (max n (-n)) (max m (-m))), .int .i64 (cmp3 m n)] 3)) HB0.out.size))
    go_wp2
    go_ret
    exact ⟨rfl, HBB.out⟩

end Go.Proofs.Ythjnodmhfhoilaa
