/- Comparisons of lists of numbers: package thing and its reference. -/
import Derived.Test.YtejllfpcffeogaaZc
import Derived.Test.YtejllfpcffeogaaYh
namespace Go.Proofs.Ytejllfpcffeogaa
open Go.RowKit Go.Shelf

theorem lexL_step {α : Type} (c : α → α → Int) {la bs : List α} {k : Nat} {a b : α} (ha : la[k]? = some a) (hb : bs[k]? = some b) : lexL c (la.drop k) (bs.drop k) = if c a b = 0 then lexL c (la.drop (k + 1)) (bs.drop (k + 1)) else c a b := by
  have h1 := (List.getElem?_eq_some_iff.1 ha)
  have h2 := (List.getElem?_eq_some_iff.1 hb)
  obtain ⟨l1, e1⟩ := h1
  obtain ⟨l2, e2⟩ := h2
  rw [List.drop_eq_getElem_cons l1, List.drop_eq_getElem_cons l2, lexL, e1, e2]

theorem lexL_stop {α : Type} (c : α → α → Int) {la bs : List α} {k : Nat} (h1 : k ≤ la.length) (h2 : k ≤ bs.length) (h : k = la.length ∨ k = bs.length) : lexL c (la.drop k) (bs.drop k) = cmpI la.length bs.length := by
  unfold cmpI
  rcases Nat.lt_or_ge k la.length with h3 | h3
  · have h4 : k = bs.length := by omega
    rw [List.drop_eq_getElem_cons h3, List.drop_of_length_le (l := bs) (by omega), lexL, if_neg (by omega), if_pos (by omega)]
  · rcases Nat.lt_or_ge k bs.length with h5 | h5
    · rw [List.drop_eq_getElem_cons h5, List.drop_of_length_le (l := la) (by omega), lexL, if_pos (by omega)]
    · rw [List.drop_of_length_le (l := la) (by omega), List.drop_of_length_le (l := bs) (by omega), lexL, if_neg (by omega), if_neg (by omega)]

set_option maxHeartbeats 1000000 in
theorem isNaN_any (x : Int) (w : World) :
    Calls Try.prog 71 #[.int .i64 x] w fun e w' => e = .returned (.bool false) ∧ w = w' := by
  go_enter Try.func71, Try.ntmps71
  go_wp2
  go_ret
  exact ⟨by simp, rfl⟩

set_option maxHeartbeats 1000000 in
theorem compare_any (x y : Int) (w : World) :
    Calls Try.prog 42 #[.int .i64 x, .int .i64 y] w fun e w' => e = .returned (.int .i64 (if x < y then -1 else if y < x then 1 else 0)) ∧ w = w' := by
  have K1 := Lib.hid (fun x w => isNaN_any x w)
  by_cases h1 : x < y
  · rw [if_pos h1]
    go_enter Try.func42, Try.ntmps42
    go_wp2_with fail
    refine (K1.out _ _).mono ?_
    rintro e w' ⟨rfl, rfl⟩
    go_wp2_with fail
    refine (K1.out _ _).mono ?_
    rintro e w' ⟨rfl, rfl⟩
    go_wp2
    go_ret
    exact ⟨rfl, rfl⟩
  · rw [if_neg h1]
    by_cases h2 : y < x
    · rw [if_pos h2]
      go_enter Try.func42, Try.ntmps42
      go_wp2_with fail
      refine (K1.out _ _).mono ?_
      rintro e w' ⟨rfl, rfl⟩
      go_wp2_with fail
      refine (K1.out _ _).mono ?_
      rintro e w' ⟨rfl, rfl⟩
      go_wp2
      go_ret
      exact ⟨rfl, rfl⟩
    · rw [if_neg h2]
      go_enter Try.func42, Try.ntmps42
      go_wp2_with fail
      refine (K1.out _ _).mono ?_
      rintro e w' ⟨rfl, rfl⟩
      go_wp2_with fail
      refine (K1.out _ _).mono ?_
      rintro e w' ⟨rfl, rfl⟩
      go_wp2
      go_ret
      exact ⟨rfl, rfl⟩

theorem cmpc_any (x y : Int) (w : World) :
    Calls Try.prog 42 #[.int .i64 x, .int .i64 y] w fun e w' => e = .returned (.int .i64 (cmpI x y)) ∧ w = w' :=
  (compare_any x y w).mono fun _ _ hh => hh

set_option maxHeartbeats 4000000 in
set_option maxRecDepth 100000 in
theorem cli_any (a : Option Addr) (n c : Nat) (b : Option Addr) (m d : Nat) (xs ys : List Int) (w : World) (hx : Els .i64 w (.slice a n c) xs) (hy : Els .i64 w (.slice b m d) ys) (hn : n ≤ 1000000000) (hm : m ≤ 1000000000) :
    Calls Try.prog 41 #[.slice a n c, .slice b m d, .func (.func 42) #[] #[]] w fun e w' => e = .returned (.int .i64 (lexL cmpI xs ys)) ∧ Below w.heap.size w w' := by
  have hq : ∃ q : Nat, q ≤ n ∧ q ≤ m ∧ (q = n ∨ q = m) ∧ ((n : Int) ≤ m ∧ min (n : Int) m = q ∨ ¬ (n : Int) ≤ m ∧ min (n : Int) m = q) := by
    by_cases h : n ≤ m
    · exact ⟨n, by omega, by omega, .inl rfl, .inl ⟨by omega, by omega⟩⟩
    · exact ⟨m, by omega, by omega, .inr rfl, .inr ⟨by omega, by omega⟩⟩
  obtain ⟨q, hq1, hq2, hq3, hq4⟩ := hq
  have HX := Lib.hid hx
  have HY := Lib.hid hy
  have HXN := Lib.hid hx.len
  have HYN := Lib.hid hy.len
  have HQ : Hid (q = n ∨ q = m) := Lib.hid hq3
  have hst : lexL cmpI (xs.drop 0) (ys.drop 0) = lexL cmpI xs ys := rfl
  generalize lexL cmpI xs ys = R at *
  have HST := Lib.hid hst
  have KC := Lib.hid fun (x y : Int) W => cmpc_any x y W
  have HS0 : Hid (Since w w) := Lib.hid (Below.refl _ _)
  clear hx hy hq3 hst
  rcases hq4 with ⟨hle, hmin⟩ | ⟨hle, hmin⟩
  all_goals
    go_enter Try.func41, Try.ntmps41
    go_wp2
    go_loopw [14] (fun x wr => ∃ k : Nat, k ≤ q ∧ x = .int .i64 k ∧ Hid (lexL cmpI (xs.drop k) (ys.drop k) = R) ∧ Hid (Since w wr)) (fun x _ => q - (intOf x).toNat)
    case atStart => exact ⟨0, by omega, rfl, HST, HS0⟩
    case round =>
      obtain ⟨k, hk, rfl, hV, hS⟩ := hrel
      by_cases hlt : k < q
      · have i1 : (k : Int) < q := by omega
        have i2 : k < n := by omega
        have i3 : k < m := by omega
        have i4 : (k : Int) < n := by omega
        have i5 : (k : Int) < m := by omega
        obtain ⟨g1, o1, rfl, p1⟩ := (HX.out.below hS.out).at k i2
        obtain ⟨g2, o2, rfl, p2⟩ := (HY.out.below hS.out).at k i3
        have hx : xs[k]? = some (xs[k]?.getD 0) := by rw [List.getElem?_eq_getElem (by have := HXN.out; omega)]; rfl
        have hy : ys[k]? = some (ys[k]?.getD 0) := by rw [List.getElem?_eq_getElem (by have := HYN.out; omega)]; rfl
        generalize xs[k]?.getD 0 = x at *
        generalize ys[k]?.getD 0 = y at *
        have hstep := lexL_step cmpI hx hy
        have KQ := Lib.hid fun W => KC.out x y W
        generalize cmpI x y = v at *
        rw [hV.out] at hstep
        have hSd : Since wr wr.drew := Below.drew (Below.refl _ _)
        by_cases hv : v = 0
        · subst hv
          rw [if_pos rfl] at hstep
          have HV := Lib.hid hstep.symm
          clear hstep hx hy hV
          go_wp2_with fail
          go_region_held3 (fun w' => w'.cell? ⟨g1, o1 + k, none⟩ = some (.int .i64 x) ∧ w'.cell? ⟨g2, o2 + k, none⟩ = some (.int .i64 y) ∧ Since wr w')
            (exact ⟨p1, p2, hSd⟩)
            ((go_at_call 42; refine (KQ.out _).mono ?_; rintro e w' ⟨rfl, rfl⟩))
          go_wp2
          go_roundw
          case rel => exact ⟨k + 1, by omega, by go_num, HV, Lib.hid (Since.step hS.out hSd)⟩
          case measure => simp [intOf]; omega
        · rw [if_neg hv] at hstep
          have HV := Lib.hid hstep
          have hv2 : (v != 0) = true := bne_iff_ne.2 hv
          clear hstep hx hy hV hv
          go_wp2_with fail
          go_region_held3 (fun w' => w'.cell? ⟨g1, o1 + k, none⟩ = some (.int .i64 x) ∧ w'.cell? ⟨g2, o2 + k, none⟩ = some (.int .i64 y) ∧ Since wr w')
            (exact ⟨p1, p2, hSd⟩)
            ((go_at_call 42; refine (KQ.out _).mono ?_; rintro e w' ⟨rfl, rfl⟩))
          go_wp2
          go_ret
          exact ⟨ret_int HV.out.symm, Since.step hS.out hSd⟩
      · have i1 : ¬ (k : Int) < q := by omega
        have hend := lexL_stop cmpI (la := xs) (bs := ys) (k := k) (by have := HXN.out; omega) (by have := HYN.out; omega) (by have := HXN.out; have := HYN.out; have := HQ.out; omega)
        rw [← HXN.out, ← HYN.out, hV.out] at hend
        have HV := Lib.hid hend
        have KE := Lib.hid fun W => KC.out (n : Int) (m : Int) W
        clear hend hV
        go_wp2_with fail
        refine (KE.out _).mono ?_
        rintro e w2 ⟨rfl, rfl⟩
        go_wp2
        go_ret
        exact ⟨ret_int HV.out.symm, hS.out⟩

theorem order_any (x y : Int) (w : World) :
    Calls Try.prog 48 #[.int .i64 x, .int .i64 y] w fun e w' => e = .returned (.int .i64 (cmpI x y)) ∧ w = w' := by
  unfold cmpI
  by_cases h1 : x < y
  · rw [if_pos h1]
    go_enter Try.func48, Try.ntmps48
    go_wp2
    go_ret
    exact ⟨rfl, rfl⟩
  · rw [if_neg h1]
    by_cases h2 : y < x
    · rw [if_pos h2]
      have h3 : x > y := h2
      go_enter Try.func48, Try.ntmps48
      go_wp2
      go_ret
      exact ⟨rfl, rfl⟩
    · rw [if_neg h2]
      have h3 : ¬ x > y := h2
      go_enter Try.func48, Try.ntmps48
      go_wp2
      go_ret
      exact ⟨rfl, rfl⟩

set_option maxHeartbeats 4000000 in
set_option maxRecDepth 100000 in
theorem rints_any' (a : Option Addr) (n c : Nat) (b : Option Addr) (m d : Nat) (xs ys : List Int) (w : World) (hx : Els .i64 w (.slice a n c) xs) (hy : Els .i64 w (.slice b m d) ys) (hn : n ≤ 1000000000) (hm : m ≤ 1000000000) :
    Calls Try.prog 46 #[.slice a n c, .slice b m d] w fun e w' => e = .returned (.int .i64 (lexL cmpI xs ys)) ∧ Below w.heap.size w w' := by
  have HX := Lib.hid hx
  have HY := Lib.hid hy
  have HXN := Lib.hid hx.len
  have HYN := Lib.hid hy.len
  have hst : lexL cmpI (xs.drop 0) (ys.drop 0) = lexL cmpI xs ys := rfl
  generalize lexL cmpI xs ys = R at *
  have HST := Lib.hid hst
  have KC := Lib.hid fun (x y : Int) W => order_any x y W
  have HS0 : Hid (Since w w) := Lib.hid (Below.refl _ _)
  clear hx hy hst
  go_enter Try.func46, Try.ntmps46
  go_wp2
  go_loopw [5] (fun x wr => ∃ k : Nat, k ≤ n ∧ k ≤ m ∧ x = .int .i64 k ∧ Hid (lexL cmpI (xs.drop k) (ys.drop k) = R) ∧ Hid (Since w wr)) (fun x _ => n - (intOf x).toNat)
  case atStart => exact ⟨0, by omega, by omega, rfl, HST, HS0⟩
  case round =>
    obtain ⟨k, hk, hk2, rfl, hV, hS⟩ := hrel
    have i8 : IntKind.i64.wrap ((k : Int) + 1) = (k : Int) + 1 := IntWalk.i64_in _ (by omega)
    by_cases hl1 : k < n
    · have i4 : (k : Int) < n := by omega
      by_cases hl2 : k < m
      · have i5 : (k : Int) < m := by omega
        obtain ⟨g1, o1, rfl, p1⟩ := (HX.out.below hS.out).at k hl1
        obtain ⟨g2, o2, rfl, p2⟩ := (HY.out.below hS.out).at k hl2
        have hx : xs[k]? = some (xs[k]?.getD 0) := by rw [List.getElem?_eq_getElem (by have := HXN.out; omega)]; rfl
        have hy : ys[k]? = some (ys[k]?.getD 0) := by rw [List.getElem?_eq_getElem (by have := HYN.out; omega)]; rfl
        generalize xs[k]?.getD 0 = x at *
        generalize ys[k]?.getD 0 = y at *
        have hstep := lexL_step cmpI hx hy
        have KQ := Lib.hid fun W => KC.out x y W
        rw [hV.out] at hstep
        by_cases hv : x = y
        · rw [if_pos (by rw [hv]; exact cmpI_self y)] at hstep
          have HV := Lib.hid hstep.symm
          have hne : (x != y) = false := by rw [hv]; simp
          clear hstep hx hy hV KQ hv
          go_wp2_with fail
          go_quiet (fail)
          go_wp2
          go_roundw
          case rel => exact ⟨k + 1, by omega, by omega, by go_num, HV, below_drewN hS.out _⟩
          case measure => simp [intOf]; omega
        · rw [if_neg (fun h => hv (cmpI_zero.1 h))] at hstep
          have HV := Lib.hid hstep
          have hne : (x != y) = true := bne_iff_ne.2 hv
          generalize cmpI x y = v at *
          clear hstep hx hy hV hv
          go_wp2_with fail
          go_quiet (fail)
          go_wp2_with fail
          have hSn : Since wr (wr.drewN nq) := below_drewN (Below.refl _ _) nq
          have p3 := Since.cell hSn p1
          have p4 := Since.cell hSn p2
          generalize wr.drewN nq = wq at *
          have hSd : Since wq wq.drew := Below.drew (Below.refl _ _)
          go_region_held3 (fun w' => w'.cell? ⟨g1, o1 + k, none⟩ = some (.int .i64 x) ∧ w'.cell? ⟨g2, o2 + k, none⟩ = some (.int .i64 y) ∧ Since wq w')
            (exact ⟨p3, p4, hSd⟩)
            ((go_at_call 48; refine (KQ.out _).mono ?_; rintro e w' ⟨rfl, rfl⟩))
          go_wp2
          go_ret
          exact ⟨ret_int HV.out.symm, Since.step hS.out (Since.step hSn hSd)⟩
      · have i5 : ¬ (k : Int) < m := by omega
        have hend := lexL_stop cmpI (la := xs) (bs := ys) (k := k) (by have := HXN.out; omega) (by have := HYN.out; omega) (by have := HXN.out; have := HYN.out; omega)
        rw [← HXN.out, ← HYN.out, hV.out] at hend
        have HV := Lib.hid hend
        have KE := Lib.hid fun W => KC.out (n : Int) (m : Int) W
        clear hend hV
        go_wp2_with fail
        refine (KE.out _).mono ?_
        rintro e w2 ⟨rfl, rfl⟩
        go_wp2
        go_ret
        exact ⟨ret_int HV.out.symm, hS.out⟩
    · have i4 : ¬ (k : Int) < n := by omega
      have hend := lexL_stop cmpI (la := xs) (bs := ys) (k := k) (by have := HXN.out; omega) (by have := HYN.out; omega) (by have := HXN.out; have := HYN.out; omega)
      rw [← HXN.out, ← HYN.out, hV.out] at hend
      have HV := Lib.hid hend
      have KE := Lib.hid fun W => KC.out (n : Int) (m : Int) W
      clear hend hV
      go_wp2_with fail
      refine (KE.out _).mono ?_
      rintro e w2 ⟨rfl, rfl⟩
      go_wp2
      go_ret
      exact ⟨ret_int HV.out.symm, hS.out⟩

end Go.Proofs.Ytejllfpcffeogaa
