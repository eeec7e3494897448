import Derived.Test.YtgnloodmbgdgdaaGreatFB31
import Derived.Test.YtgnloodmbgdgdaaGreatFB29
namespace Go.Proofs.YtgnloodmbgdgdaaGreat.W
open Go.RowKit Go.Shelf
set_option maxHeartbeats 4000000 in
set_option maxRecDepth 100000 in
theorem cfi_any (a : Option Addr) (n c : Nat) (b : Option Addr) (m d : Nat) (xs ys : List Int) (w : World) (hx : Els .i64 w (.slice a n c) xs) (hy : Els .i64 w (.slice b m d) ys) (hn : n ≤ 1000000000) :
  Calls Tryz.prog 142 #[.slice a n c, .slice b m d, .func (.func 78) #[] #[]] w fun e w' => e = .returned (.int .i64 (lenL cmpI xs ys)) ∧ Below w.heap.size w w' := by
 have HX := Lib.hid hx
 have HY := Lib.hid hy
 have HXN := Lib.hid hx.len
 have HYN := Lib.hid hy.len
 have KC := Lib.hid fun (x y : Int) W => cmpc_any x y W
 have HS0 : Hid (Since w w) := Lib.hid (Below.refl _ _)
 unfold lenL
 rw [← HXN.out, ← HYN.out]
 have KN := Lib.hid (cmpc_any (n : Int) (m : Int) w)
 have h0 := cmpI_zero (a := (n : Int)) (b := (m : Int))
 clear hx hy
 by_cases hnm : n = m
 ·subst hnm
  have hz : cmpI (n : Int) (n : Int) = 0 := h0.2 rfl
  rw [hz] at KN
  rw [hz, if_pos rfl]
  have hst : zipL cmpI (xs.drop 0) (ys.drop 0) = zipL cmpI xs ys := rfl
  generalize zipL cmpI xs ys = R at *
  have HST := Lib.hid hst
  clear hst hz h0
  go_enter Tryz.func142, Tryz.ntmps142
  go_wp2_with fail
  refine KN.out.mono ?_
  rintro e w2 ⟨rfl, rfl⟩
  go_wp2
  go_loopw [20] (fun x wr => ∃ k : Nat, k ≤ n ∧ x = .int .i64 k ∧ Hid (zipL cmpI (xs.drop k) (ys.drop k) = R) ∧ Hid (Since w wr)) (fun x _ => n - (intOf x).toNat)
  case atStart => exact ⟨0, by omega, rfl, HST, HS0⟩
  case round =>
   obtain ⟨k, hk, rfl, hV, hS⟩ := hrel
   by_cases hlt : k < n
   ·have i1 : (k : Int) < n := by omega
    have i0 : (0 : Int) ≤ (k : Int) := by omega
    obtain ⟨g1, o1, rfl, p1⟩ := (HX.out.below (Below.toBelow hS.out)).at k hlt
    obtain ⟨g2, o2, rfl, p2⟩ := (HY.out.below (Below.toBelow hS.out)).at k hlt
    have hx : xs[k]? = some (xs[k]?.getD 0) := by rw [List.getElem?_eq_getElem (by have := HXN.out; omega)]; rfl
    have hy : ys[k]? = some (ys[k]?.getD 0) := by rw [List.getElem?_eq_getElem (by have := HYN.out; omega)]; rfl
    generalize xs[k]?.getD 0 = x at *
    generalize ys[k]?.getD 0 = y at *
    have hstep := zipL_step cmpI hx hy
    have KQ := Lib.hid fun W => KC.out x y W
    generalize cmpI x y = v at *
    rw [hV.out] at hstep
    have hSd : Since wr wr.drew := Below.drew (Below.refl _ _)
    by_cases hv : v = 0
    ·subst hv
     rw [if_pos rfl] at hstep
     have HV := Lib.hid hstep.symm
     clear hstep hx hy hV
     go_wp2_with fail
     go_region_held3 (fun w' => w'.cell? ⟨g1, o1 + k, none⟩ = some (.int .i64 x) ∧ w'.cell? ⟨g2, o2 + k, none⟩ = some (.int .i64 y) ∧ Since wr w')
      (exact ⟨p1, p2, hSd⟩)
      ((go_at_call 78; refine (KQ.out _).mono ?_; rintro e w' ⟨rfl, rfl⟩))
     go_wp2
     go_roundw
     case rel => exact ⟨k + 1, by omega, by go_num, HV, Lib.hid (Since.step hS.out hSd)⟩
     case measure => simp [intOf]; omega
    ·rw [if_neg hv] at hstep
     have HV := Lib.hid hstep
     have hv2 : (v != 0) = true := bne_iff_ne.2 hv
     clear hstep hx hy hV hv
     go_wp2_with fail
     go_region_held3 (fun w' => w'.cell? ⟨g1, o1 + k, none⟩ = some (.int .i64 x) ∧ w'.cell? ⟨g2, o2 + k, none⟩ = some (.int .i64 y) ∧ Since wr w')
      (exact ⟨p1, p2, hSd⟩)
      ((go_at_call 78; refine (KQ.out _).mono ?_; rintro e w' ⟨rfl, rfl⟩))
     go_wp2
     go_ret
     exact ⟨fret_int HV.out.symm, Since.step hS.out hSd⟩
   ·have i1 : ¬ (k : Int) < n := by omega
    have hend := zipL_stop cmpI (la := xs) (bs := ys) (k := k) (by have := HXN.out; omega)
    rw [hV.out] at hend
    have HV := Lib.hid hend
    clear hend hV
    go_wp2
    go_ret
    exact ⟨fret_int HV.out.symm, hS.out⟩
 ·have hz : cmpI (n : Int) (m : Int) ≠ 0 := fun h => hnm (by have := h0.1 h; omega)
  rw [if_neg hz]
  generalize cmpI (n : Int) (m : Int) = v at *
  have hv2 : (v != 0) = true := bne_iff_ne.2 hz
  clear h0 hz hnm
  go_enter Tryz.func142, Tryz.ntmps142
  go_wp2_with fail
  refine KN.out.mono ?_
  rintro e w2 ⟨rfl, rfl⟩
  go_wp2
  go_ret
  exact ⟨rfl, HS0.out⟩
set_option maxHeartbeats 8000000 in
set_option maxRecDepth 100000 in
theorem ranks_any (x : Iv) (w : World) :
  Calls Tryz.prog 141 #[x.v] w fun e w' => e = .returned (.agg (x.rank.map (Value.int .i64)).toArray) ∧ Below w.heap.size w w' := by
 obtain ⟨a, b, c, d, p, q, r, s⟩ := x
 simp only [Iv.v, Iv.rank, List.map_cons, List.map_nil]
 obtain ⟨W1, hW1⟩ : ∃ W1, W1 = w.alloc (.cells #[.int .i64 a, .int .i64 b, .int .i64 c, .int .i64 d, .bool p, .bool q, .bool r, .bool s] 112) := ⟨_, rfl⟩
 have hS1 : Since w W1 := by rw [hW1]; exact Since.alloc (since_r _) _
 have hz1 : W1.heap.size = w.heap.size + 1 := by rw [hW1, World.size_alloc]
 have hX1 : BoxL w.heap.size [.int .i64 a, .int .i64 b, .int .i64 c, .int .i64 d, .bool p, .bool q, .bool r, .bool s] W1 := by rw [hW1]; exact BoxL.made w _ _
 obtain ⟨W2, hW2⟩ : ∃ W2, W2 = W1.alloc (.cells #[.int .i64 0, .int .i64 0, .int .i64 0, .int .i64 0, .int .i64 0, .int .i64 0, .int .i64 0, .int .i64 0] 151) := ⟨_, rfl⟩
 have hS2 : Since W1 W2 := by rw [hW2]; exact Since.alloc (since_r _) _
 have hX := hX1.keep (Below.toBelow hS2)
 have hY : BoxL (w.heap.size + 1) [.int .i64 0, .int .i64 0, .int .i64 0, .int .i64 0, .int .i64 0, .int .i64 0, .int .i64 0, .int .i64 0] W2 := by rw [hW2, ← hz1]; exact BoxL.made W1 _ _
 have KB := Lib.hid fun (x : Bool) W => bit_any x W
 obtain ⟨x0, x1, x2, x3, x4, x5, x6, x7, -⟩ := hX.open8
 have hfz : ∀ i, i < 8 → W2.frozen? ⟨w.heap.size + 1, i, none⟩ = false := fun i hi => by
  match i, hi with
  | 0, _ => exact (hY.2 0 _ rfl).2
  | 1, _ => exact (hY.2 1 _ rfl).2
  | 2, _ => exact (hY.2 2 _ rfl).2
  | 3, _ => exact (hY.2 3 _ rfl).2
  | 4, _ => exact (hY.2 4 _ rfl).2
  | 5, _ => exact (hY.2 5 _ rfl).2
  | 6, _ => exact (hY.2 6 _ rfl).2
  | 7, _ => exact (hY.2 7 _ rfl).2
 obtain ⟨y0, y1, y2, y3, y4, y5, y6, y7, -⟩ := hY.open8
 have f0 := hfz 0 (by decide)
 have f1 := hfz 1 (by decide)
 have f2 := hfz 2 (by decide)
 have f3 := hfz 3 (by decide)
 have f4 := hfz 4 (by decide)
 have f5 := hfz 5 (by decide)
 have f6 := hfz 6 (by decide)
 have f7 := hfz 7 (by decide)
 have hb8 : Below (w.heap.size + 1) W2 ((((((((W2.setCell ⟨w.heap.size + 1, 0, none⟩ (.int .i64 (bitI r))).setCell ⟨w.heap.size + 1, 1, none⟩ (.int .i64 (bitI p))).setCell ⟨w.heap.size + 1, 2, none⟩ (.int .i64 a)).setCell ⟨w.heap.size + 1, 3, none⟩ (.int .i64 b)).setCell ⟨w.heap.size + 1, 4, none⟩ (.int .i64 (bitI s))).setCell ⟨w.heap.size + 1, 5, none⟩ (.int .i64 (bitI q))).setCell ⟨w.heap.size + 1, 6, none⟩ (.int .i64 c)).setCell ⟨w.heap.size + 1, 7, none⟩ (.int .i64 d)).drew := Below.drew (((((((((Below.refl _ _).setCell (p := ⟨w.heap.size + 1, 0, none⟩) (Nat.le_refl _) _).setCell (p := ⟨w.heap.size + 1, 1, none⟩) (Nat.le_refl _) _).setCell (p := ⟨w.heap.size + 1, 2, none⟩) (Nat.le_refl _) _).setCell (p := ⟨w.heap.size + 1, 3, none⟩) (Nat.le_refl _) _).setCell (p := ⟨w.heap.size + 1, 4, none⟩) (Nat.le_refl _) _).setCell (p := ⟨w.heap.size + 1, 5, none⟩) (Nat.le_refl _) _).setCell (p := ⟨w.heap.size + 1, 6, none⟩) (Nat.le_refl _) _).setCell (p := ⟨w.heap.size + 1, 7, none⟩) (Nat.le_refl _) _)
 have hy8 : BoxL (w.heap.size + 1) [.int .i64 (bitI r), .int .i64 (bitI p), .int .i64 (a), .int .i64 (b), .int .i64 (bitI s), .int .i64 (bitI q), .int .i64 (c), .int .i64 (d)] ((((((((W2.setCell ⟨w.heap.size + 1, 0, none⟩ (.int .i64 (bitI r))).setCell ⟨w.heap.size + 1, 1, none⟩ (.int .i64 (bitI p))).setCell ⟨w.heap.size + 1, 2, none⟩ (.int .i64 a)).setCell ⟨w.heap.size + 1, 3, none⟩ (.int .i64 b)).setCell ⟨w.heap.size + 1, 4, none⟩ (.int .i64 (bitI s))).setCell ⟨w.heap.size + 1, 5, none⟩ (.int .i64 (bitI q))).setCell ⟨w.heap.size + 1, 6, none⟩ (.int .i64 c)).setCell ⟨w.heap.size + 1, 7, none⟩ (.int .i64 d)).drew := BoxL.keep ((((((((hY.set1 0 (.int .i64 (bitI r)) (by simp)).set1 1 (.int .i64 (bitI p)) (by simp)).set1 2 (.int .i64 a) (by simp)).set1 3 (.int .i64 b) (by simp)).set1 4 (.int .i64 (bitI s)) (by simp)).set1 5 (.int .i64 (bitI q)) (by simp)).set1 6 (.int .i64 c) (by simp)).set1 7 (.int .i64 d) (by simp)) (Below.toBelow (since_d (since_r _)))
 have HB8 := Lib.hid hb8
 have HY8 := Lib.hid hy8
 have HS2 := Lib.hid (Since.step hS1 hS2)
 clear hb8 hy8
 clear hX hX1 hY hS1 hS2 hfz hz1
 go_enter Tryz.func141, Tryz.ntmps141
 go_upto_region 1 with (fail)
 rw [← hW1, ← hW2]
 clear hW1 hW2
 refine wp_region_noPanic ?_
 refine wp_region_held_drew (S := fun w' => w'.cell? ⟨w.heap.size, 0, none⟩ = some (.int .i64 a) ∧ w'.cell? ⟨w.heap.size, 1, none⟩ = some (.int .i64 b) ∧ w'.cell? ⟨w.heap.size, 2, none⟩ = some (.int .i64 c) ∧ w'.cell? ⟨w.heap.size, 3, none⟩ = some (.int .i64 d) ∧ w'.cell? ⟨w.heap.size, 4, none⟩ = some (.bool p) ∧ w'.cell? ⟨w.heap.size, 5, none⟩ = some (.bool q) ∧ w'.cell? ⟨w.heap.size, 6, none⟩ = some (.bool r) ∧ w'.cell? ⟨w.heap.size, 7, none⟩ = some (.bool s)) (by kernel_rfl) ⟨x0, x1, x2, x3, x4, x5, x6, x7⟩ (fun hHeld => ?_)
 refine wpAnyH_take (i := 0) (oi := ⟨some 3, Op.fieldAddr 112 (Operand.tmp 1) 4, 0, _, _, none⟩) (v := ?_) rfl (by kernel_rfl) (by kernel_rfl) (by kernel_rfl) (fun _ _ _ h => h) (Or.inl ⟨by rfl, ?_⟩) (by assumption) ?_
 rotate_left 1
 ·(intro w hSw; (try dsimp only at hSw); go_simp; first | done | with_reducible rfl)
 try simp only [Act.put, List.setIfInBounds_toArray, List.set_cons_zero, List.set_cons_succ]
 refine wpAnyH_take (i := 1) (oi := ⟨some 4, Op.load 4 (Operand.tmp 3), 4, _, _, none⟩) (v := ?_) rfl (by kernel_rfl) (by kernel_rfl) (by kernel_rfl) (fun _ _ _ h => h) (Or.inl ⟨by rfl, ?_⟩) (by assumption) ?_
 rotate_left 1
 ·(intro w hSw; (try dsimp only at hSw); go_simp; first | done | with_reducible rfl)
 try simp only [Act.put, List.setIfInBounds_toArray, List.set_cons_zero, List.set_cons_succ]
 refine wpAnyH_take (i := 3) (oi := ⟨some 6, Op.fieldAddr 112 (Operand.tmp 1) 2, 0, _, _, none⟩) (v := ?_) rfl (by kernel_rfl) (by kernel_rfl) (by kernel_rfl) (fun _ _ _ h => h) (Or.inl ⟨by rfl, ?_⟩) (by assumption) ?_
 rotate_left 1
 ·(intro w hSw; (try dsimp only at hSw); go_simp; first | done | with_reducible rfl)
 try simp only [Act.put, List.setIfInBounds_toArray, List.set_cons_zero, List.set_cons_succ]
 refine wpAnyH_take (i := 4) (oi := ⟨some 7, Op.load 4 (Operand.tmp 6), 4, _, _, none⟩) (v := ?_) rfl (by kernel_rfl) (by kernel_rfl) (by kernel_rfl) (fun _ _ _ h => h) (Or.inl ⟨by rfl, ?_⟩) (by assumption) ?_
 rotate_left 1
 ·(intro w hSw; (try dsimp only at hSw); go_simp; first | done | with_reducible rfl)
 try simp only [Act.put, List.setIfInBounds_toArray, List.set_cons_zero, List.set_cons_succ]
 refine wpAnyH_take (i := 6) (oi := ⟨some 9, Op.fieldAddr 112 (Operand.tmp 1) 0, 0, _, _, none⟩) (v := ?_) rfl (by kernel_rfl) (by kernel_rfl) (by kernel_rfl) (fun _ _ _ h => h) (Or.inl ⟨by rfl, ?_⟩) (by assumption) ?_
 rotate_left 1
 ·(intro w hSw; (try dsimp only at hSw); go_simp; first | done | with_reducible rfl)
 try simp only [Act.put, List.setIfInBounds_toArray, List.set_cons_zero, List.set_cons_succ]
 refine wpAnyH_take (i := 7) (oi := ⟨some 10, Op.fieldAddr 91 (Operand.tmp 9) 0, 0, _, _, none⟩) (v := ?_) rfl (by kernel_rfl) (by kernel_rfl) (by kernel_rfl) (fun _ _ _ h => h) (Or.inl ⟨by rfl, ?_⟩) (by assumption) ?_
 rotate_left 1
 ·(intro w hSw; (try dsimp only at hSw); go_simp; first | done | with_reducible rfl)
 try simp only [Act.put, List.setIfInBounds_toArray, List.set_cons_zero, List.set_cons_succ]
 refine wpAnyH_take (i := 8) (oi := ⟨some 11, Op.load 3 (Operand.tmp 10), 3, _, _, none⟩) (v := ?_) rfl (by kernel_rfl) (by kernel_rfl) (by kernel_rfl) (fun _ _ _ h => h) (Or.inl ⟨by rfl, ?_⟩) (by assumption) ?_
 rotate_left 1
 ·(intro w hSw; (try dsimp only at hSw); go_simp; first | done | with_reducible rfl)
 try simp only [Act.put, List.setIfInBounds_toArray, List.set_cons_zero, List.set_cons_succ]
 refine wpAnyH_take (i := 9) (oi := ⟨some 12, Op.fieldAddr 112 (Operand.tmp 1) 0, 0, _, _, none⟩) (v := ?_) rfl (by kernel_rfl) (by kernel_rfl) (by kernel_rfl) (fun _ _ _ h => h) (Or.inl ⟨by rfl, ?_⟩) (by assumption) ?_
 rotate_left 1
 ·(intro w hSw; (try dsimp only at hSw); go_simp; first | done | with_reducible rfl)
 try simp only [Act.put, List.setIfInBounds_toArray, List.set_cons_zero, List.set_cons_succ]
 refine wpAnyH_take (i := 10) (oi := ⟨some 13, Op.fieldAddr 91 (Operand.tmp 12) 1, 0, _, _, none⟩) (v := ?_) rfl (by kernel_rfl) (by kernel_rfl) (by kernel_rfl) (fun _ _ _ h => h) (Or.inl ⟨by rfl, ?_⟩) (by assumption) ?_
 rotate_left 1
 ·(intro w hSw; (try dsimp only at hSw); go_simp; first | done | with_reducible rfl)
 try simp only [Act.put, List.setIfInBounds_toArray, List.set_cons_zero, List.set_cons_succ]
 refine wpAnyH_take (i := 11) (oi := ⟨some 14, Op.load 3 (Operand.tmp 13), 3, _, _, none⟩) (v := ?_) rfl (by kernel_rfl) (by kernel_rfl) (by kernel_rfl) (fun _ _ _ h => h) (Or.inl ⟨by rfl, ?_⟩) (by assumption) ?_
 rotate_left 1
 ·(intro w hSw; (try dsimp only at hSw); go_simp; first | done | with_reducible rfl)
 try simp only [Act.put, List.setIfInBounds_toArray, List.set_cons_zero, List.set_cons_succ]
 refine wpAnyH_take (i := 12) (oi := ⟨some 15, Op.fieldAddr 112 (Operand.tmp 1) 5, 0, _, _, none⟩) (v := ?_) rfl (by kernel_rfl) (by kernel_rfl) (by kernel_rfl) (fun _ _ _ h => h) (Or.inl ⟨by rfl, ?_⟩) (by assumption) ?_
 rotate_left 1
 ·(intro w hSw; (try dsimp only at hSw); go_simp; first | done | with_reducible rfl)
 try simp only [Act.put, List.setIfInBounds_toArray, List.set_cons_zero, List.set_cons_succ]
 refine wpAnyH_take (i := 13) (oi := ⟨some 16, Op.load 4 (Operand.tmp 15), 4, _, _, none⟩) (v := ?_) rfl (by kernel_rfl) (by kernel_rfl) (by kernel_rfl) (fun _ _ _ h => h) (Or.inl ⟨by rfl, ?_⟩) (by assumption) ?_
 rotate_left 1
 ·(intro w hSw; (try dsimp only at hSw); go_simp; first | done | with_reducible rfl)
 try simp only [Act.put, List.setIfInBounds_toArray, List.set_cons_zero, List.set_cons_succ]
 refine wpAnyH_take (i := 15) (oi := ⟨some 18, Op.fieldAddr 112 (Operand.tmp 1) 3, 0, _, _, none⟩) (v := ?_) rfl (by kernel_rfl) (by kernel_rfl) (by kernel_rfl) (fun _ _ _ h => h) (Or.inl ⟨by rfl, ?_⟩) (by assumption) ?_
 rotate_left 1
 ·(intro w hSw; (try dsimp only at hSw); go_simp; first | done | with_reducible rfl)
 try simp only [Act.put, List.setIfInBounds_toArray, List.set_cons_zero, List.set_cons_succ]
 refine wpAnyH_take (i := 16) (oi := ⟨some 19, Op.load 4 (Operand.tmp 18), 4, _, _, none⟩) (v := ?_) rfl (by kernel_rfl) (by kernel_rfl) (by kernel_rfl) (fun _ _ _ h => h) (Or.inl ⟨by rfl, ?_⟩) (by assumption) ?_
 rotate_left 1
 ·(intro w hSw; (try dsimp only at hSw); go_simp; first | done | with_reducible rfl)
 try simp only [Act.put, List.setIfInBounds_toArray, List.set_cons_zero, List.set_cons_succ]
 refine wpAnyH_take (i := 18) (oi := ⟨some 21, Op.fieldAddr 112 (Operand.tmp 1) 1, 0, _, _, none⟩) (v := ?_) rfl (by kernel_rfl) (by kernel_rfl) (by kernel_rfl) (fun _ _ _ h => h) (Or.inl ⟨by rfl, ?_⟩) (by assumption) ?_
 rotate_left 1
 ·(intro w hSw; (try dsimp only at hSw); go_simp; first | done | with_reducible rfl)
 try simp only [Act.put, List.setIfInBounds_toArray, List.set_cons_zero, List.set_cons_succ]
 refine wpAnyH_take (i := 19) (oi := ⟨some 22, Op.fieldAddr 91 (Operand.tmp 21) 0, 0, _, _, none⟩) (v := ?_) rfl (by kernel_rfl) (by kernel_rfl) (by kernel_rfl) (fun _ _ _ h => h) (Or.inl ⟨by rfl, ?_⟩) (by assumption) ?_
 rotate_left 1
 ·(intro w hSw; (try dsimp only at hSw); go_simp; first | done | with_reducible rfl)
 try simp only [Act.put, List.setIfInBounds_toArray, List.set_cons_zero, List.set_cons_succ]
 refine wpAnyH_take (i := 20) (oi := ⟨some 23, Op.load 3 (Operand.tmp 22), 3, _, _, none⟩) (v := ?_) rfl (by kernel_rfl) (by kernel_rfl) (by kernel_rfl) (fun _ _ _ h => h) (Or.inl ⟨by rfl, ?_⟩) (by assumption) ?_
 rotate_left 1
 ·(intro w hSw; (try dsimp only at hSw); go_simp; first | done | with_reducible rfl)
 try simp only [Act.put, List.setIfInBounds_toArray, List.set_cons_zero, List.set_cons_succ]
 refine wpAnyH_take (i := 21) (oi := ⟨some 24, Op.fieldAddr 112 (Operand.tmp 1) 1, 0, _, _, none⟩) (v := ?_) rfl (by kernel_rfl) (by kernel_rfl) (by kernel_rfl) (fun _ _ _ h => h) (Or.inl ⟨by rfl, ?_⟩) (by assumption) ?_
 rotate_left 1
 ·(intro w hSw; (try dsimp only at hSw); go_simp; first | done | with_reducible rfl)
 try simp only [Act.put, List.setIfInBounds_toArray, List.set_cons_zero, List.set_cons_succ]
 refine wpAnyH_take (i := 22) (oi := ⟨some 25, Op.fieldAddr 91 (Operand.tmp 24) 1, 0, _, _, none⟩) (v := ?_) rfl (by kernel_rfl) (by kernel_rfl) (by kernel_rfl) (fun _ _ _ h => h) (Or.inl ⟨by rfl, ?_⟩) (by assumption) ?_
 rotate_left 1
 ·(intro w hSw; (try dsimp only at hSw); go_simp; first | done | with_reducible rfl)
 try simp only [Act.put, List.setIfInBounds_toArray, List.set_cons_zero, List.set_cons_succ]
 refine wpAnyH_take (i := 23) (oi := ⟨some 26, Op.load 3 (Operand.tmp 25), 3, _, _, none⟩) (v := ?_) rfl (by kernel_rfl) (by kernel_rfl) (by kernel_rfl) (fun _ _ _ h => h) (Or.inl ⟨by rfl, ?_⟩) (by assumption) ?_
 rotate_left 1
 ·(intro w hSw; (try dsimp only at hSw); go_simp; first | done | with_reducible rfl)
 try simp only [Act.put, List.setIfInBounds_toArray, List.set_cons_zero, List.set_cons_succ]
 refine wpAnyH_ready (rs := [2]) (by kernel_rfl) (by simp) ?_
 refine AllReadyH.cons (o := ⟨some 5, Op.call { callee := Callee.value (Operand.func 172), args := #[Operand.tmp 4], argTypes := #[4] }, 3, _, _, none⟩) rfl (fun K hK => ?_) AllReadyH.nil
 go_simp
 go_at_call 172
 refine (KB.out _ _).mono ?_
 rintro e w' ⟨rfl, rfl⟩
 try go_wp2_with fail
 refine hK.out _ _ ?_ (fun hHeld => ?_)
 ·exact ⟨x0, x1, x2, x3, x4, x5, x6, x7⟩
 clear hK K
 try simp only [Act.put, List.setIfInBounds_toArray, List.set_cons_zero, List.set_cons_succ]
 refine wpAnyH_ready (rs := [5]) (by kernel_rfl) (by simp) ?_
 refine AllReadyH.cons (o := ⟨some 8, Op.call { callee := Callee.value (Operand.func 172), args := #[Operand.tmp 7], argTypes := #[4] }, 3, _, _, none⟩) rfl (fun K hK => ?_) AllReadyH.nil
 go_simp
 go_at_call 172
 refine (KB.out _ _).mono ?_
 rintro e w' ⟨rfl, rfl⟩
 try go_wp2_with fail
 refine hK.out _ _ ?_ (fun hHeld => ?_)
 ·exact ⟨x0, x1, x2, x3, x4, x5, x6, x7⟩
 clear hK K
 try simp only [Act.put, List.setIfInBounds_toArray, List.set_cons_zero, List.set_cons_succ]
 refine wpAnyH_ready (rs := [14]) (by kernel_rfl) (by simp) ?_
 refine AllReadyH.cons (o := ⟨some 17, Op.call { callee := Callee.value (Operand.func 172), args := #[Operand.tmp 16], argTypes := #[4] }, 3, _, _, none⟩) rfl (fun K hK => ?_) AllReadyH.nil
 go_simp
 go_at_call 172
 refine (KB.out _ _).mono ?_
 rintro e w' ⟨rfl, rfl⟩
 try go_wp2_with fail
 refine hK.out _ _ ?_ (fun hHeld => ?_)
 ·exact ⟨x0, x1, x2, x3, x4, x5, x6, x7⟩
 clear hK K
 try simp only [Act.put, List.setIfInBounds_toArray, List.set_cons_zero, List.set_cons_succ]
 refine wpAnyH_ready (rs := [17]) (by kernel_rfl) (by simp) ?_
 refine AllReadyH.cons (o := ⟨some 20, Op.call { callee := Callee.value (Operand.func 172), args := #[Operand.tmp 19], argTypes := #[4] }, 3, _, _, none⟩) rfl (fun K hK => ?_) AllReadyH.nil
 go_simp
 go_at_call 172
 refine (KB.out _ _).mono ?_
 rintro e w' ⟨rfl, rfl⟩
 try go_wp2_with fail
 refine hK.out _ _ ?_ (fun hHeld => ?_)
 ·exact ⟨x0, x1, x2, x3, x4, x5, x6, x7⟩
 clear hK K
 try simp only [Act.put, List.setIfInBounds_toArray, List.set_cons_zero, List.set_cons_succ]
 refine wpAnyH_take (i := 24) (oi := ⟨some 27, Op.build 151 #[(0, Operand.tmp 5), (1, Operand.tmp 8), (2, Operand.tmp 11), (3, Operand.tmp 14), (4, Operand.tmp 17), (5, Operand.tmp 20), (6, Operand.tmp 23), (7, Operand.tmp 26)], 151, _, _, none⟩) (v := ?_) rfl (by kernel_rfl) (by kernel_rfl) (by kernel_rfl) (fun _ _ _ h => h) (Or.inl ⟨by rfl, ?_⟩) (by assumption) ?_
 rotate_left 1
 ·(intro w hSw; (try dsimp only at hSw); go_simp; first | done | with_reducible rfl)
 try simp only [Act.put, List.setIfInBounds_toArray, List.set_cons_zero, List.set_cons_succ]
 refine wpAnyH_ready (rs := [25]) (by kernel_rfl) (by simp) ?_
 refine AllReadyH.cons (o := ⟨none, Op.store 151 (Operand.tmp 2) (Operand.tmp 27), 0, _, _, none⟩) rfl (fun K hK => ?_) AllReadyH.nil
 go_simp
 try go_wp2_with fail
 refine hK.out _ _ ?_ (fun hHeld => ?_)
 ·exact ⟨(HB8.out.cell (p := ⟨w.heap.size, 0, none⟩) (Nat.lt_succ_self _)).trans x0, (HB8.out.cell (p := ⟨w.heap.size, 1, none⟩) (Nat.lt_succ_self _)).trans x1, (HB8.out.cell (p := ⟨w.heap.size, 2, none⟩) (Nat.lt_succ_self _)).trans x2, (HB8.out.cell (p := ⟨w.heap.size, 3, none⟩) (Nat.lt_succ_self _)).trans x3, (HB8.out.cell (p := ⟨w.heap.size, 4, none⟩) (Nat.lt_succ_self _)).trans x4, (HB8.out.cell (p := ⟨w.heap.size, 5, none⟩) (Nat.lt_succ_self _)).trans x5, (HB8.out.cell (p := ⟨w.heap.size, 6, none⟩) (Nat.lt_succ_self _)).trans x6, (HB8.out.cell (p := ⟨w.heap.size, 7, none⟩) (Nat.lt_succ_self _)).trans x7⟩
 clear hK K
 refine wpAnyH_done (by kernel_rfl) ?_ _
 refine NoPanic.normal ?_
 obtain ⟨z0, z1, z2, z3, z4, z5, z6, z7, -⟩ := HY8.out.open8
 go_wp2
 exact bodyPost_ret (v := .agg #[.int .i64 (bitI r), .int .i64 (bitI p), .int .i64 (a), .int .i64 (b), .int .i64 (bitI s), .int .i64 (bitI q), .int .i64 (c), .int .i64 (d)]) (by simp [results, Tryz.results141, go_sem, z0, z1, z2, z3, z4, z5, z6, z7]) rfl ⟨rfl, HS2.out.trans (HB8.out.mono (Nat.le_succ _))⟩
set_option maxHeartbeats 4000000 in
set_option maxRecDepth 100000 in
theorem cfv_any (p : Iv → Iv → Int) (a : Option Addr) (n c : Nat) (b : Option Addr) (m d : Nat) (xs ys : List Iv) (w : World) (hx : REls RIv w (.slice a n c) xs) (hy : REls RIv w (.slice b m d) ys) (hn : n ≤ 100000000) (hm : m ≤ 100000000)
  (KC : Hid (∀ (x y : Iv) (W : World), Calls Tryz.prog 80 #[x.v, y.v] W fun e w' => e = .returned (.int .i64 (p x y)) ∧ Below W.heap.size W w')) :
  Calls Tryz.prog 79 #[.slice a n c, .slice b m d, .func (.func 80) #[] #[]] w fun e w' => e = .returned (.int .i64 (lenL p xs ys)) ∧ Below w.heap.size w w' := by
 have HX := Lib.hid hx
 have HY := Lib.hid hy
 have HXN := Lib.hid hx.len
 have HYN := Lib.hid hy.len
 have HS0 : Hid (Since w w) := Lib.hid (Below.refl _ _)
 unfold lenL
 rw [← HXN.out, ← HYN.out]
 have KN := Lib.hid (cmpc_any (n : Int) (m : Int) w)
 have h0 := cmpI_zero (a := (n : Int)) (b := (m : Int))
 clear hx hy
 by_cases hnm : n = m
 ·subst hnm
  have hz : cmpI (n : Int) (n : Int) = 0 := h0.2 rfl
  rw [hz] at KN
  rw [hz, if_pos rfl]
  have hst : zipL p (xs.drop 0) (ys.drop 0) = zipL p xs ys := rfl
  generalize zipL p xs ys = R at *
  have HST := Lib.hid hst
  clear hst hz h0
  go_enter Tryz.func79, Tryz.ntmps79
  go_wp2_with fail
  refine KN.out.mono ?_
  rintro e w2 ⟨rfl, rfl⟩
  go_wp2
  go_loopw [20] (fun x wr => ∃ k : Nat, k ≤ n ∧ x = .int .i64 k ∧ Hid (zipL p (xs.drop k) (ys.drop k) = R) ∧ Hid (Since w wr)) (fun x _ => n - (intOf x).toNat)
  case atStart => exact ⟨0, by omega, rfl, HST, HS0⟩
  case round =>
   obtain ⟨k, hk, rfl, hV, hS⟩ := hrel
   by_cases hlt : k < n
   ·have i1 : (k : Int) < n := by omega
    have i0 : (0 : Int) ≤ (k : Int) := by omega
    have hx9 := REls.below (Below.toBelow hS.out) HX.out
    have hy9 := REls.below (Below.toBelow hS.out) HY.out
    obtain ⟨g1, rfl, -⟩ := hx9.get hlt
    obtain ⟨g2, rfl, -⟩ := hy9.get hlt
    obtain ⟨x, hx⟩ : ∃ x, xs[k]? = some x := ⟨_, List.getElem?_eq_getElem (by have := HXN.out; omega)⟩
    obtain ⟨y, hy⟩ : ∃ y, ys[k]? = some y := ⟨_, List.getElem?_eq_getElem (by have := HYN.out; omega)⟩
    obtain ⟨p0, p1, p2, p3, p4, p5, p6, p7⟩ := fiv_at hx9 hx
    obtain ⟨q0, q1, q2, q3, q4, q5, q6, q7⟩ := fiv_at hy9 hy
    have hstep := zipL_step p hx hy
    have hSd : Since wr wr.drew := since_d (since_r _)
    have KQ := Lib.hid (KC.out x y wr.drew)
    generalize p x y = v at *
    obtain ⟨x1, x2, x3, x4, x5, x6, x7, x8⟩ := x
    obtain ⟨y1, y2, y3, y4, y5, y6, y7, y8⟩ := y
    simp only [Iv.v] at KQ p0 p1 p2 p3 p4 p5 p6 p7 q0 q1 q2 q3 q4 q5 q6 q7
    rw [hV.out] at hstep
    clear hx9 hy9
    by_cases hv : v = 0
    ·subst hv
     rw [if_pos rfl] at hstep
     have HV := Lib.hid hstep.symm
     clear hstep hx hy hV
     go_wp2_with fail
     go_region_held3 (fun w' => w'.cell? ⟨g1, k * 8, none⟩ = some (.int .i64 x1) ∧ w'.cell? ⟨g1, k * 8 + 1, none⟩ = some (.int .i64 x2) ∧ w'.cell? ⟨g1, k * 8 + 2, none⟩ = some (.int .i64 x3) ∧ w'.cell? ⟨g1, k * 8 + 3, none⟩ = some (.int .i64 x4) ∧ w'.cell? ⟨g1, k * 8 + 4, none⟩ = some (.bool x5) ∧ w'.cell? ⟨g1, k * 8 + 5, none⟩ = some (.bool x6) ∧ w'.cell? ⟨g1, k * 8 + 6, none⟩ = some (.bool x7) ∧ w'.cell? ⟨g1, k * 8 + 7, none⟩ = some (.bool x8) ∧ w'.cell? ⟨g2, k * 8, none⟩ = some (.int .i64 y1) ∧ w'.cell? ⟨g2, k * 8 + 1, none⟩ = some (.int .i64 y2) ∧ w'.cell? ⟨g2, k * 8 + 2, none⟩ = some (.int .i64 y3) ∧ w'.cell? ⟨g2, k * 8 + 3, none⟩ = some (.int .i64 y4) ∧ w'.cell? ⟨g2, k * 8 + 4, none⟩ = some (.bool y5) ∧ w'.cell? ⟨g2, k * 8 + 5, none⟩ = some (.bool y6) ∧ w'.cell? ⟨g2, k * 8 + 6, none⟩ = some (.bool y7) ∧ w'.cell? ⟨g2, k * 8 + 7, none⟩ = some (.bool y8) ∧ Since wr w')
      ((with_reducible refine ⟨Since.cell ?_ p0, Since.cell ?_ p1, Since.cell ?_ p2, Since.cell ?_ p3, Since.cell ?_ p4, Since.cell ?_ p5, Since.cell ?_ p6, Since.cell ?_ p7, Since.cell ?_ q0, Since.cell ?_ q1, Since.cell ?_ q2, Since.cell ?_ q3, Since.cell ?_ q4, Since.cell ?_ q5, Since.cell ?_ q6, Since.cell ?_ q7, ?_⟩) <;> (repeat (first | with_reducible assumption | with_reducible exact since_r _ | with_reducible refine Since.alloc ?_ _ | with_reducible refine since_d ?_)))
      ((go_at_call 80; refine KQ.out.mono ?_; rintro e w' ⟨rfl, hr⟩; have hB4 : Since wr w' := Since.step hSd hr))
     have HB4 := Lib.hid (Since.step hS.out hB4)
     clear hB4 hr hSd p0 p1 p2 p3 p4 p5 p6 p7 q0 q1 q2 q3 q4 q5 q6 q7
     go_wp2
     go_roundw
     case rel => exact ⟨k + 1, by omega, by go_num, HV, HB4⟩
     case measure => simp [intOf]; omega
    ·rw [if_neg hv] at hstep
     have HV := Lib.hid hstep
     have hv2 : (v != 0) = true := bne_iff_ne.2 hv
     clear hstep hx hy hV hv
     go_wp2_with fail
     go_region_held3 (fun w' => w'.cell? ⟨g1, k * 8, none⟩ = some (.int .i64 x1) ∧ w'.cell? ⟨g1, k * 8 + 1, none⟩ = some (.int .i64 x2) ∧ w'.cell? ⟨g1, k * 8 + 2, none⟩ = some (.int .i64 x3) ∧ w'.cell? ⟨g1, k * 8 + 3, none⟩ = some (.int .i64 x4) ∧ w'.cell? ⟨g1, k * 8 + 4, none⟩ = some (.bool x5) ∧ w'.cell? ⟨g1, k * 8 + 5, none⟩ = some (.bool x6) ∧ w'.cell? ⟨g1, k * 8 + 6, none⟩ = some (.bool x7) ∧ w'.cell? ⟨g1, k * 8 + 7, none⟩ = some (.bool x8) ∧ w'.cell? ⟨g2, k * 8, none⟩ = some (.int .i64 y1) ∧ w'.cell? ⟨g2, k * 8 + 1, none⟩ = some (.int .i64 y2) ∧ w'.cell? ⟨g2, k * 8 + 2, none⟩ = some (.int .i64 y3) ∧ w'.cell? ⟨g2, k * 8 + 3, none⟩ = some (.int .i64 y4) ∧ w'.cell? ⟨g2, k * 8 + 4, none⟩ = some (.bool y5) ∧ w'.cell? ⟨g2, k * 8 + 5, none⟩ = some (.bool y6) ∧ w'.cell? ⟨g2, k * 8 + 6, none⟩ = some (.bool y7) ∧ w'.cell? ⟨g2, k * 8 + 7, none⟩ = some (.bool y8) ∧ Since wr w')
      ((with_reducible refine ⟨Since.cell ?_ p0, Since.cell ?_ p1, Since.cell ?_ p2, Since.cell ?_ p3, Since.cell ?_ p4, Since.cell ?_ p5, Since.cell ?_ p6, Since.cell ?_ p7, Since.cell ?_ q0, Since.cell ?_ q1, Since.cell ?_ q2, Since.cell ?_ q3, Since.cell ?_ q4, Since.cell ?_ q5, Since.cell ?_ q6, Since.cell ?_ q7, ?_⟩) <;> (repeat (first | with_reducible assumption | with_reducible exact since_r _ | with_reducible refine Since.alloc ?_ _ | with_reducible refine since_d ?_)))
      ((go_at_call 80; refine KQ.out.mono ?_; rintro e w' ⟨rfl, hr⟩; have hB4 : Since wr w' := Since.step hSd hr))
     have HB4 := Lib.hid (Since.step hS.out hB4)
     clear hB4 hr hSd p0 p1 p2 p3 p4 p5 p6 p7 q0 q1 q2 q3 q4 q5 q6 q7
     go_wp2
     go_ret
     exact ⟨fret_int HV.out.symm, HB4.out⟩
   ·have i1 : ¬ (k : Int) < n := by omega
    have hend := zipL_stop p (la := xs) (bs := ys) (k := k) (by have := HXN.out; omega)
    rw [hV.out] at hend
    have HV := Lib.hid hend
    clear hend hV
    go_wp2
    go_ret
    exact ⟨fret_int HV.out.symm, hS.out⟩
 ·have hz : cmpI (n : Int) (m : Int) ≠ 0 := fun h => hnm (by have := h0.1 h; omega)
  rw [if_neg hz]
  generalize cmpI (n : Int) (m : Int) = v at *
  have hv2 : (v != 0) = true := bne_iff_ne.2 hz
  clear h0 hz hnm
  go_enter Tryz.func79, Tryz.ntmps79
  go_wp2_with fail
  refine KN.out.mono ?_
  rintro e w2 ⟨rfl, rfl⟩
  go_wp2
  go_ret
  exact ⟨rfl, HS0.out⟩
set_option maxHeartbeats 4000000 in
set_option maxRecDepth 100000 in
theorem cff_any (p : Fo → Fo → Int) (a : Option Addr) (n c : Nat) (b : Option Addr) (m d : Nat) (xs ys : List Fo) (w : World) (hx : Fs w.heap.size w (.slice a n c) xs) (hy : Fs w.heap.size w (.slice b m d) ys) (hn : n ≤ 1000000000) (hm : m ≤ 1000000000)
  (KC : Hid (∀ x ∈ xs, ∀ y ∈ ys, ∀ (c d c' d' : Value) (W : World), FAt W.heap.size W x c d → FAt W.heap.size W y c' d' → Calls Tryz.prog 42 #[.agg #[.int .i64 x.op, .int .i64 x.n, c, d], .agg #[.int .i64 y.op, .int .i64 y.n, c', d']] W fun e w' => e = .returned (.int .i64 (p x y)) ∧ Below W.heap.size W w')) :
  Calls Tryz.prog 81 #[.slice a n c, .slice b m d, .func (.func 42) #[] #[]] w fun e w' => e = .returned (.int .i64 (lenL p xs ys)) ∧ Below w.heap.size w w' := by
 have HX := Lib.hid hx
 have HY := Lib.hid hy
 have HXN := Lib.hid hx.len
 have HYN := Lib.hid hy.len
 have HS0 : Hid (Since w w) := Lib.hid (Below.refl _ _)
 unfold lenL
 rw [← HXN.out, ← HYN.out]
 have KN := Lib.hid (cmpc_any (n : Int) (m : Int) w)
 have h0 := cmpI_zero (a := (n : Int)) (b := (m : Int))
 clear hx hy
 by_cases hnm : n = m
 ·subst hnm
  have hz : cmpI (n : Int) (n : Int) = 0 := h0.2 rfl
  rw [hz] at KN
  rw [hz, if_pos rfl]
  have hst : zipL p (xs.drop 0) (ys.drop 0) = zipL p xs ys := rfl
  generalize zipL p xs ys = R at *
  have HST := Lib.hid hst
  clear hst hz h0
  go_enter Tryz.func81, Tryz.ntmps81
  go_wp2_with fail
  refine KN.out.mono ?_
  rintro e w2 ⟨rfl, rfl⟩
  go_wp2
  go_loopw [20] (fun x wr => ∃ k : Nat, k ≤ n ∧ x = .int .i64 k ∧ Hid (zipL p (xs.drop k) (ys.drop k) = R) ∧ Hid (Since w wr)) (fun x _ => n - (intOf x).toNat)
  case atStart => exact ⟨0, by omega, rfl, HST, HS0⟩
  case round =>
   obtain ⟨k, hk, rfl, hV, hS⟩ := hrel
   by_cases hlt : k < n
   ·have i1 : (k : Int) < n := by omega
    have i0 : (0 : Int) ≤ (k : Int) := by omega
    obtain ⟨g1, x, rfl, -, -, -, hx, vc, vd, p0, p1, p2, p3, hTx⟩ := (Fs.below (Below.toBelow hS.out) HX.out).get (j := k) hlt
    obtain ⟨g2, y, rfl, -, -, -, hy, uc, ud, q0, q1, q2, q3, hTy⟩ := (Fs.below (Below.toBelow hS.out) HY.out).get (j := k) hlt
    have hstep := zipL_step p hx hy
    have hSd : Since wr wr.drew := since_d (since_r _)
    have KQ := Lib.hid (KC.out x (List.mem_of_getElem? hx) y (List.mem_of_getElem? hy) vc vd uc ud wr.drew (FAt.below (Below.toBelow hSd) hTx) (FAt.below (Below.toBelow hSd) hTy))
    obtain ⟨a1, c1, a2, c2, rfl, rfl, -⟩ := hTx.shape
    obtain ⟨a3, c3, a4, c4, rfl, rfl, -⟩ := hTy.shape
    generalize p x y = v at *
    rw [hV.out] at hstep
    generalize x.op = x1 at *
    generalize x.n = x2 at *
    generalize x.is.length = x3 at *
    generalize x.ks.length = x4 at *
    generalize y.op = y1 at *
    generalize y.n = y2 at *
    generalize y.is.length = y3 at *
    generalize y.ks.length = y4 at *
    clear hTx hTy
    by_cases hv : v = 0
    ·subst hv
     rw [if_pos rfl] at hstep
     have HV := Lib.hid hstep.symm
     clear hstep hx hy hV
     go_wp2_with fail
     go_region_held3 (fun w' => w'.cell? ⟨g1, k * 4, none⟩ = some (.int .i64 x1) ∧ w'.cell? ⟨g1, k * 4 + 1, none⟩ = some (.int .i64 x2) ∧ w'.cell? ⟨g1, k * 4 + 2, none⟩ = some (.slice a1 x3 c1) ∧ w'.cell? ⟨g1, k * 4 + 3, none⟩ = some (.slice a2 x4 c2) ∧ w'.cell? ⟨g2, k * 4, none⟩ = some (.int .i64 y1) ∧ w'.cell? ⟨g2, k * 4 + 1, none⟩ = some (.int .i64 y2) ∧ w'.cell? ⟨g2, k * 4 + 2, none⟩ = some (.slice a3 y3 c3) ∧ w'.cell? ⟨g2, k * 4 + 3, none⟩ = some (.slice a4 y4 c4) ∧ Since wr w')
      ((with_reducible refine ⟨Since.cell ?_ p0, Since.cell ?_ p1, Since.cell ?_ p2, Since.cell ?_ p3, Since.cell ?_ q0, Since.cell ?_ q1, Since.cell ?_ q2, Since.cell ?_ q3, ?_⟩) <;> (repeat (first | with_reducible assumption | with_reducible exact since_r _ | with_reducible refine Since.alloc ?_ _ | with_reducible refine since_d ?_)))
      ((go_at_call 42; refine KQ.out.mono ?_; rintro e w' ⟨rfl, hr⟩; have hB4 : Since wr w' := Since.step hSd hr))
     have HB4 := Lib.hid (Since.step hS.out hB4)
     clear hB4 hr hSd p0 p1 p2 p3 q0 q1 q2 q3
     go_wp2
     go_roundw
     case rel => exact ⟨k + 1, by omega, by go_num, HV, HB4⟩
     case measure => simp [intOf]; omega
    ·rw [if_neg hv] at hstep
     have HV := Lib.hid hstep
     have hv2 : (v != 0) = true := bne_iff_ne.2 hv
     clear hstep hx hy hV hv
     go_wp2_with fail
     go_region_held3 (fun w' => w'.cell? ⟨g1, k * 4, none⟩ = some (.int .i64 x1) ∧ w'.cell? ⟨g1, k * 4 + 1, none⟩ = some (.int .i64 x2) ∧ w'.cell? ⟨g1, k * 4 + 2, none⟩ = some (.slice a1 x3 c1) ∧ w'.cell? ⟨g1, k * 4 + 3, none⟩ = some (.slice a2 x4 c2) ∧ w'.cell? ⟨g2, k * 4, none⟩ = some (.int .i64 y1) ∧ w'.cell? ⟨g2, k * 4 + 1, none⟩ = some (.int .i64 y2) ∧ w'.cell? ⟨g2, k * 4 + 2, none⟩ = some (.slice a3 y3 c3) ∧ w'.cell? ⟨g2, k * 4 + 3, none⟩ = some (.slice a4 y4 c4) ∧ Since wr w')
      ((with_reducible refine ⟨Since.cell ?_ p0, Since.cell ?_ p1, Since.cell ?_ p2, Since.cell ?_ p3, Since.cell ?_ q0, Since.cell ?_ q1, Since.cell ?_ q2, Since.cell ?_ q3, ?_⟩) <;> (repeat (first | with_reducible assumption | with_reducible exact since_r _ | with_reducible refine Since.alloc ?_ _ | with_reducible refine since_d ?_)))
      ((go_at_call 42; refine KQ.out.mono ?_; rintro e w' ⟨rfl, hr⟩; have hB4 : Since wr w' := Since.step hSd hr))
     have HB4 := Lib.hid (Since.step hS.out hB4)
     clear hB4 hr hSd p0 p1 p2 p3 q0 q1 q2 q3
     go_wp2
     go_ret
     exact ⟨fret_int HV.out.symm, HB4.out⟩
   ·have i1 : ¬ (k : Int) < n := by omega
    have hend := zipL_stop p (la := xs) (bs := ys) (k := k) (by have := HXN.out; omega)
    rw [hV.out] at hend
    have HV := Lib.hid hend
    clear hend hV
    go_wp2
    go_ret
    exact ⟨fret_int HV.out.symm, hS.out⟩
 ·have hz : cmpI (n : Int) (m : Int) ≠ 0 := fun h => hnm (by have := h0.1 h; omega)
  rw [if_neg hz]
  generalize cmpI (n : Int) (m : Int) = v at *
  have hv2 : (v != 0) = true := bne_iff_ne.2 hz
  clear h0 hz hnm
  go_enter Tryz.func81, Tryz.ntmps81
  go_wp2_with fail
  refine KN.out.mono ?_
  rintro e w2 ⟨rfl, rfl⟩
  go_wp2
  go_ret
  exact ⟨rfl, HS0.out⟩
def CmpVK (q : Iv → Iv → Int) : Prop := ∀ (x y : Iv) (W : World), Calls Tryz.prog 80 #[x.v, y.v] W fun e w' => e = .returned (.int .i64 (q x y)) ∧ Below W.heap.size W w'
def CmpFK (q : Iv → Iv → Int) (m : Nat) : Prop := ∀ (f g : Fo), f.size ≤ m → g.size ≤ 1000000 → f.wf → g.wf → ∀ (c d c' d' : Value) (W : World), FAt W.heap.size W f c d → FAt W.heap.size W g c' d' →
 Calls Tryz.prog 42 #[.agg #[.int .i64 f.op, .int .i64 f.n, c, d], .agg #[.int .i64 g.op, .int .i64 g.n, c', d']] W fun e w' => e = .returned (.int .i64 (f.cmp q g)) ∧ Below W.heap.size W w'
set_option maxHeartbeats 4000000 in
set_option maxRecDepth 100000 in
theorem cmpF_step (q : Iv → Iv → Int) (KV : Hid (CmpVK q)) {m : Nat} (hm : m ≤ 1000000) (K : Hid (CmpFK q m)) : CmpFK q (m + 1) := by
 intro f g hfs hgs hfw hgw c d c' d' w hF hG
 have hff := (Fo.wf_eq f).1 hfw
 have hgg := (Fo.wf_eq g).1 hgw
 have hs1 := f.size_eq
 have hs2 := g.size_eq
 have hl1 := Fo.sizes_len f.ks
 have hl2 := Fo.sizes_len g.ks
 obtain ⟨W1, hW1⟩ : ∃ W1, W1 = w.alloc (.cells #[.int .i64 f.op, .int .i64 f.n, c, d] 29) := ⟨_, rfl⟩
 have hS1 : Since w W1 := by rw [hW1]; exact Since.alloc (since_r _) _
 have hz1 : W1.heap.size = w.heap.size + 1 := by rw [hW1, World.size_alloc]
 have hX1 : BoxL w.heap.size [.int .i64 f.op, .int .i64 f.n, c, d] W1 := by rw [hW1]; exact BoxL.made w _ _
 obtain ⟨W2, hW2⟩ : ∃ W2, W2 = W1.alloc (.cells #[.int .i64 g.op, .int .i64 g.n, c', d'] 29) := ⟨_, rfl⟩
 have hS2 : Since W1 W2 := by rw [hW2]; exact Since.alloc (since_r _) _
 have hX := hX1.keep (Below.toBelow hS2)
 have hY : BoxL (w.heap.size + 1) [.int .i64 g.op, .int .i64 g.n, c', d'] W2 := by rw [hW2, ← hz1]; exact BoxL.made W1 _ _
 have hS := Since.step hS1 hS2
 have hF2 := FAt.below (Below.toBelow hS) hF
 have hG2 := FAt.below (Below.toBelow hS) hG
 obtain ⟨a1, c1, a2, c2, rfl, rfl, hI1, hK1, -⟩ := hF2.shape
 obtain ⟨a3, c3, a4, c4, rfl, rfl, hI2, hK2, -⟩ := hG2.shape
 have KL := Lib.hid fun W (hs : Since W2 W) => cfv_any q _ _ _ _ _ _ f.is g.is W (REls.below (Below.toBelow hs) hI1) (REls.below (Below.toBelow hs) hI2) (by omega) (by omega) KV
 have KK := Lib.hid fun W (hs : Since W2 W) => cff_any (Fo.cmp q) _ _ _ _ _ _ f.ks g.ks W (Fs.below (Below.toBelow hs) hK1) (Fs.below (Below.toBelow hs) hK2) (by omega) (by omega) (Lib.hid fun x hx y hy c d c' d' W hTx hTy => K.out x y (by have := Fo.sizes_mem hx; omega) (by have := Fo.sizes_mem hy; omega) (hff.2 x hx) (hgg.2 y hy) c d c' d' W hTx hTy)
 have KC := Lib.hid fun (x y : Int) W => cmpc_any x y W
 have KO : Hid (∀ (W : World) (T : TypeId), Calls Tryz.prog 77 #[.slice (some ⟨W.heap.size, 0, none⟩) 2 2] (W.alloc (.cells #[.int .i64 (cmpI f.op g.op), .int .i64 (cmpI f.n g.n)] T)).drew fun e w' => e = .returned (.int .i64 (firstNZ [cmpI f.op g.op, cmpI f.n g.n])) ∧ (W.alloc (.cells #[.int .i64 (cmpI f.op g.op), .int .i64 (cmpI f.n g.n)] T)).drew = w') := Lib.hid fun W T => or_any _ _ _ [cmpI f.op g.op, cmpI f.n g.n] _ (Els.below (Below.toBelow (since_d (since_r _))) (Els.new .i64 W T [cmpI f.op g.op, cmpI f.n g.n])) (by simp)
 rw [Fo.cmp_eq]
 generalize firstNZ [cmpI f.op g.op, cmpI f.n g.n] = u1 at *
 generalize lenL q f.is g.is = u2 at *
 generalize lenL (Fo.cmp q) f.ks g.ks = u3 at *
 generalize f.is.length = l1 at *
 generalize f.ks.length = l2 at *
 generalize g.is.length = l3 at *
 generalize g.ks.length = l4 at *
 generalize f.op = o1 at *
 generalize f.n = o2 at *
 generalize g.op = o3 at *
 generalize g.n = o4 at *
 have HX := Lib.hid hX
 have HY := Lib.hid hY
 have HS := Lib.hid hS
 obtain ⟨x0, x1, x2, x3, -⟩ := hX.open4
 obtain ⟨y0, y1, y2, y3, -⟩ := hY.open4
 have hSd : Since W2 W2.drew := since_d (since_r _)
 have hR : Hid (∀ R : Int, R = (if u1 = 0 then if u2 = 0 then u3 else u2 else u1) → (u1 ≠ 0 → R = u1) ∧ (u1 = 0 → u2 ≠ 0 → R = u2) ∧ (u1 = 0 → u2 = 0 → R = u3)) := Lib.hid fun R h => by
  subst h
  exact ⟨fun h => if_neg h, fun h1 h2 => by rw [if_pos h1, if_neg h2], fun h1 h2 => by rw [if_pos h1, if_pos h2]⟩
 obtain ⟨R, hRe⟩ : ∃ R, R = (if u1 = 0 then if u2 = 0 then u3 else u2 else u1) := ⟨_, rfl⟩
 have HR := Lib.hid (hR.out R hRe)
 rw [← hRe]
 clear hR hRe hX1 hX hY hS1 hS2 hS hz1 hF2 hG2 hF hG hI1 hI2 hK1 hK2 hff hgg hs1 hs2 hl1 hl2 hfs hgs hfw hgw K KV hm
 go_enter Tryz.func42, Tryz.ntmps42
 go_upto_region 1 with (fail)
 rw [← hW1, ← hW2]
 clear hW1 hW2
 go_region_held3 (fun w' => w'.cell? ⟨w.heap.size, 0, none⟩ = some (.int .i64 o1) ∧ w'.cell? ⟨w.heap.size, 1, none⟩ = some (.int .i64 o2) ∧ w'.cell? ⟨w.heap.size + 1, 0, none⟩ = some (.int .i64 o3) ∧ w'.cell? ⟨w.heap.size + 1, 1, none⟩ = some (.int .i64 o4) ∧ Since W2 w')
  ((with_reducible refine ⟨Since.cell ?_ x0, Since.cell ?_ x1, Since.cell ?_ y0, Since.cell ?_ y1, ?_⟩) <;> (repeat (first | with_reducible assumption | with_reducible exact since_r _ | with_reducible refine Since.alloc ?_ _ | with_reducible refine since_d ?_)))
  ((first
   | (go_at_call 78; refine (KC.out _ _ _).mono ?_; rintro e w' ⟨rfl, rfl⟩)
   | (go_at_call 77; refine (KO.out _ _).mono ?_; rintro e w' ⟨rfl, rfl⟩)))
 have hS3 : Since W2 (W2.alloc (.cells #[.int .i64 (cmpI o1 o3), .int .i64 (cmpI o2 o4)] 3)).drew := since_d (Since.alloc (since_r _) _)
 clear x0 x1 x2 x3 y0 y1 y2 y3 hSd
 obtain ⟨x0, x1, x2, x3, -⟩ := (HX.out.keep (Below.toBelow hS3)).open4
 obtain ⟨y0, y1, y2, y3, -⟩ := (HY.out.keep (Below.toBelow hS3)).open4
 have HB3 := Lib.hid (Since.step HS.out hS3)
 have KL3 := Lib.hid (KL.out _ hS3)
 have KK3 := Lib.hid fun W hs => KK.out W (Since.step hS3 hs)
 have HX3 := Lib.hid (HX.out.keep (Below.toBelow hS3))
 have HY3 := Lib.hid (HY.out.keep (Below.toBelow hS3))
 clear hS3 KL KK HX HY
 generalize (W2.alloc (.cells #[.int .i64 (cmpI o1 o3), .int .i64 (cmpI o2 o4)] 3)).drew = W3 at *
 by_cases h1 : u1 = 0
 ·subst h1
  go_wp2_with fail
  refine KL3.out.mono ?_
  clear x0 x1 x2 x3 y0 y1 y2 y3
  rintro e w4 ⟨rfl, hr⟩
  obtain ⟨x0, x1, x2, x3, -⟩ := (HX3.out.keep (Below.toBelow hr)).open4
  obtain ⟨y0, y1, y2, y3, -⟩ := (HY3.out.keep (Below.toBelow hr)).open4
  have HB4 := Lib.hid (Since.step HB3.out hr)
  have KK4 := Lib.hid (KK3.out _ hr)
  clear hr KK3
  by_cases h2 : u2 = 0
  ·subst h2
   have hv := HR.out.2.2 (by trivial) (by trivial)
   have HV := Lib.hid hv
   clear hv HR
   go_wp2_with fail
   refine KK4.out.mono ?_
   clear x0 x1 x2 x3 y0 y1 y2 y3
   rintro e w5 ⟨rfl, hr⟩
   have HB5 := Lib.hid (Since.step HB4.out hr)
   clear hr
   go_wp2
   go_ret
   exact ⟨fret_int HV.out.symm, HB5.out⟩
  ·have hv2 : (u2 != 0) = true := bne_iff_ne.2 h2
   have HV := Lib.hid (HR.out.2.1 (by trivial) h2)
   clear HR h2
   go_wp2
   go_ret
   exact ⟨fret_int HV.out.symm, HB4.out⟩
 ·have hv2 : (u1 != 0) = true := bne_iff_ne.2 h1
  have HV := Lib.hid (HR.out.1 h1)
  clear HR h1
  go_wp2
  go_ret
  exact ⟨fret_int HV.out.symm, HB3.out⟩
theorem cmpF_all (q : Iv → Iv → Int) (KV : Hid (CmpVK q)) : ∀ m : Nat, m ≤ 1000000 → CmpFK q m
 | 0, _ => fun f g hf => by
  have := f.size_pos
  omega
 | m + 1, h => cmpF_step q KV (by omega) (Lib.hid (cmpF_all q KV m (by omega)))
end Go.Proofs.YtgnloodmbgdgdaaGreat.W
