import Derived.Test.YtgnloodmbgdgdaaGreatFB32
import Derived.Test.YtgnloodmbgdgdaaGreatFB29
namespace Go.Proofs.YtgnloodmbgdgdaaGreat.W
open Go.RowKit Go.Shelf
theorem TwoBox.put8 {W1 X : World} {P Q : Nat} {z : Value} {a b c d e f g i a2 b2 c2 d2 e2 f2 g2 i2 : Value} (h : TwoBox W1 [z, z, z, z, z, z, z, z] P Q X) : Both3 W1 [a, b, c, d, e, f, g, i] [a2, b2, c2, d2, e2, f2, g2, i2] (.pointer (some ⟨P, 0, none⟩)) (.pointer (some ⟨Q, 0, none⟩)) ((((((((((((((((X.setCell ⟨P, 0, none⟩ a).setCell ⟨P, 1, none⟩ b).setCell ⟨P, 2, none⟩ c).setCell ⟨P, 3, none⟩ d).setCell ⟨P, 4, none⟩ e).setCell ⟨P, 5, none⟩ f).setCell ⟨P, 6, none⟩ g).setCell ⟨P, 7, none⟩ i).setCell ⟨Q, 0, none⟩ a2).setCell ⟨Q, 1, none⟩ b2).setCell ⟨Q, 2, none⟩ c2).setCell ⟨Q, 3, none⟩ d2).setCell ⟨Q, 4, none⟩ e2).setCell ⟨Q, 5, none⟩ f2).setCell ⟨Q, 6, none⟩ g2).setCell ⟨Q, 7, none⟩ i2) := by
 obtain ⟨⟨p1, p2, p3⟩, ⟨q1, q2, -⟩, hne⟩ := h
 exact ⟨P, Q, rfl, rfl, box_keepset (box_keepset (box_keepset (box_keepset (box_keepset (box_keepset (box_keepset (box_keepset (((((((((p2).set1 0 _ (by simp)).set1 1 _ (by simp)).set1 2 _ (by simp)).set1 3 _ (by simp)).set1 4 _ (by simp)).set1 5 _ (by simp)).set1 6 _ (by simp)).set1 7 _ (by simp)) hne 0 _) hne 1 _) hne 2 _) hne 3 _) hne 4 _) hne 5 _) hne 6 _) hne 7 _, ((((((((box_keepset (box_keepset (box_keepset (box_keepset (box_keepset (box_keepset (box_keepset (box_keepset (q2) hne.symm 0 _) hne.symm 1 _) hne.symm 2 _) hne.symm 3 _) hne.symm 4 _) hne.symm 5 _) hne.symm 6 _) hne.symm 7 _).set1 0 _ (by simp)).set1 1 _ (by simp)).set1 2 _ (by simp)).set1 3 _ (by simp)).set1 4 _ (by simp)).set1 5 _ (by simp)).set1 6 _ (by simp)).set1 7 _ (by simp), Below.setCell (Below.setCell (Below.setCell (Below.setCell (Below.setCell (Below.setCell (Below.setCell (Below.setCell (Below.setCell (Below.setCell (Below.setCell (Below.setCell (Below.setCell (Below.setCell (Below.setCell (Below.setCell (p3) (p := ⟨P, 0, none⟩) p1 _) (p := ⟨P, 1, none⟩) p1 _) (p := ⟨P, 2, none⟩) p1 _) (p := ⟨P, 3, none⟩) p1 _) (p := ⟨P, 4, none⟩) p1 _) (p := ⟨P, 5, none⟩) p1 _) (p := ⟨P, 6, none⟩) p1 _) (p := ⟨P, 7, none⟩) p1 _) (p := ⟨Q, 0, none⟩) q1 _) (p := ⟨Q, 1, none⟩) q1 _) (p := ⟨Q, 2, none⟩) q1 _) (p := ⟨Q, 3, none⟩) q1 _) (p := ⟨Q, 4, none⟩) q1 _) (p := ⟨Q, 5, none⟩) q1 _) (p := ⟨Q, 6, none⟩) q1 _) (p := ⟨Q, 7, none⟩) q1 _⟩
theorem _root_.Go.Proofs.YtgnloodmbgdgdaaGreat.BoxL.all8 {N : Nat} {a b c d e f g i : Value} {W : World} (h : BoxL N [a, b, c, d, e, f, g, i] W) : W.cell? ⟨N, 0, none⟩ = some a ∧ W.cell? ⟨N, 1, none⟩ = some b ∧ W.cell? ⟨N, 2, none⟩ = some c ∧ W.cell? ⟨N, 3, none⟩ = some d ∧ W.cell? ⟨N, 4, none⟩ = some e ∧ W.cell? ⟨N, 5, none⟩ = some f ∧ W.cell? ⟨N, 6, none⟩ = some g ∧ W.cell? ⟨N, 7, none⟩ = some i ∧
  W.frozen? ⟨N, 0, none⟩ = false ∧ W.frozen? ⟨N, 1, none⟩ = false ∧ W.frozen? ⟨N, 2, none⟩ = false ∧ W.frozen? ⟨N, 3, none⟩ = false ∧ W.frozen? ⟨N, 4, none⟩ = false ∧ W.frozen? ⟨N, 5, none⟩ = false ∧ W.frozen? ⟨N, 6, none⟩ = false ∧ W.frozen? ⟨N, 7, none⟩ = false ∧ N < W.heap.size :=
 ⟨(h.2 0 a rfl).1, (h.2 1 b rfl).1, (h.2 2 c rfl).1, (h.2 3 d rfl).1, (h.2 4 e rfl).1, (h.2 5 f rfl).1, (h.2 6 g rfl).1, (h.2 7 i rfl).1, (h.2 0 a rfl).2, (h.2 1 b rfl).2, (h.2 2 c rfl).2, (h.2 3 d rfl).2, (h.2 4 e rfl).2, (h.2 5 f rfl).2, (h.2 6 g rfl).2, (h.2 7 i rfl).2, h.1⟩
theorem els8 {P : Nat} {W : World} {a b c d e f g i : Int} (h : BoxL P [.int .i64 a, .int .i64 b, .int .i64 c, .int .i64 d, .int .i64 e, .int .i64 f, .int .i64 g, .int .i64 i] W) : Els .i64 W (.slice (some ⟨P, 0, none⟩) 8 8) [a, b, c, d, e, f, g, i] := by
 exact .inr ⟨P, 0, 8, h.1, rfl, Nat.le_refl _, fun j hj => by
  rw [Nat.zero_add]
  match j, hj with
  | 0, _ => exact (h.2 0 _ rfl).1
  | 1, _ => exact (h.2 1 _ rfl).1
  | 2, _ => exact (h.2 2 _ rfl).1
  | 3, _ => exact (h.2 3 _ rfl).1
  | 4, _ => exact (h.2 4 _ rfl).1
  | 5, _ => exact (h.2 5 _ rfl).1
  | 6, _ => exact (h.2 6 _ rfl).1
  | 7, _ => exact (h.2 7 _ rfl).1⟩
set_option maxHeartbeats 16000000 in
set_option maxRecDepth 100000 in
theorem civ_any : CmpVK Iv.cmp := by
 intro x y w
 have hR : lenL cmpI x.rank y.rank = Iv.cmp x y := rfl
 generalize Iv.cmp x y = R at *
 obtain ⟨xa, xb, xc, xd, xp, xq, xr, xs⟩ := x
 obtain ⟨ya, yb, yc, yd, yp, yq, yr, ys⟩ := y
 simp only [Iv.v]
 simp only [Iv.rank] at hR
 have KN : Hid (∀ (a b c d : Int) (p q r s : Bool) (W : World), Calls Tryz.prog 141 #[.agg #[.int .i64 a, .int .i64 b, .int .i64 c, .int .i64 d, .bool p, .bool q, .bool r, .bool s]] W fun e w' => e = .returned (.agg #[.int .i64 (bitI r), .int .i64 (bitI p), .int .i64 a, .int .i64 b, .int .i64 (bitI s), .int .i64 (bitI q), .int .i64 c, .int .i64 d]) ∧ Below W.heap.size W w') := Lib.hid fun a b c d p q r s W => ranks_any ⟨a, b, c, d, p, q, r, s⟩ W
 have KL := Lib.hid fun (P Q : Nat) W (hx : BoxL P [.int .i64 (bitI xr), .int .i64 (bitI xp), .int .i64 xa, .int .i64 xb, .int .i64 (bitI xs), .int .i64 (bitI xq), .int .i64 xc, .int .i64 xd] W) (hy : BoxL Q [.int .i64 (bitI yr), .int .i64 (bitI yp), .int .i64 ya, .int .i64 yb, .int .i64 (bitI ys), .int .i64 (bitI yq), .int .i64 yc, .int .i64 yd] W) => cfi_any (some ⟨P, 0, none⟩) 8 8 (some ⟨Q, 0, none⟩) 8 8 _ _ W (els8 hx) (els8 hy) (by omega)
 rw [hR] at KL
 obtain ⟨W1, hW1⟩ : ∃ W1, W1 = (w.alloc (.cells #[.int .i64 xa, .int .i64 xb, .int .i64 xc, .int .i64 xd, .bool xp, .bool xq, .bool xr, .bool xs] 112)).alloc (.cells #[.int .i64 ya, .int .i64 yb, .int .i64 yc, .int .i64 yd, .bool yp, .bool yq, .bool yr, .bool ys] 112) := ⟨_, rfl⟩
 have hX : BoxL w.heap.size [.int .i64 xa, .int .i64 xb, .int .i64 xc, .int .i64 xd, .bool xp, .bool xq, .bool xr, .bool xs] W1 := by rw [hW1]; exact (BoxL.made w _ _).under _
 have hY : BoxL (w.heap.size + 1) [.int .i64 ya, .int .i64 yb, .int .i64 yc, .int .i64 yd, .bool yp, .bool yq, .bool yr, .bool ys] W1 := by
  rw [hW1]
  have := BoxL.made (w.alloc (.cells #[.int .i64 xa, .int .i64 xb, .int .i64 xc, .int .i64 xd, .bool xp, .bool xq, .bool xr, .bool xs] 112)) #[.int .i64 ya, .int .i64 yb, .int .i64 yc, .int .i64 yd, .bool yp, .bool yq, .bool yr, .bool ys] 112
  rwa [World.size_alloc] at this
 have hB : Below w.heap.size w W1 := by rw [hW1]; exact ((Below.refl _ _).alloc (Nat.le_refl _) _).alloc (by simp) _
 have HB1 := Lib.hid hB
 obtain ⟨x0, x1, x2, x3, x4, x5, x6, x7, -⟩ := hX.open8
 obtain ⟨y0, y1, y2, y3, y4, y5, y6, y7, -⟩ := hY.open8
 clear hR hB hX hY
 go_enter Tryz.func80, Tryz.ntmps80
 go_upto_region 1 with (fail)
 rw [← hW1]
 generalize w.heap.size + 1 = N1 at *
 clear hW1
 have HC : Hid (∀ X, Since W1 X → X.cell? ⟨w.heap.size, 0, none⟩ = some (.int .i64 xa) ∧ X.cell? ⟨w.heap.size, 1, none⟩ = some (.int .i64 xb) ∧ X.cell? ⟨w.heap.size, 2, none⟩ = some (.int .i64 xc) ∧ X.cell? ⟨w.heap.size, 3, none⟩ = some (.int .i64 xd) ∧ X.cell? ⟨w.heap.size, 4, none⟩ = some (.bool xp) ∧ X.cell? ⟨w.heap.size, 5, none⟩ = some (.bool xq) ∧ X.cell? ⟨w.heap.size, 6, none⟩ = some (.bool xr) ∧ X.cell? ⟨w.heap.size, 7, none⟩ = some (.bool xs) ∧ X.cell? ⟨N1, 0, none⟩ = some (.int .i64 ya) ∧ X.cell? ⟨N1, 1, none⟩ = some (.int .i64 yb) ∧ X.cell? ⟨N1, 2, none⟩ = some (.int .i64 yc) ∧ X.cell? ⟨N1, 3, none⟩ = some (.int .i64 yd) ∧ X.cell? ⟨N1, 4, none⟩ = some (.bool yp) ∧ X.cell? ⟨N1, 5, none⟩ = some (.bool yq) ∧ X.cell? ⟨N1, 6, none⟩ = some (.bool yr) ∧ X.cell? ⟨N1, 7, none⟩ = some (.bool ys) ∧ Since W1 X) := Lib.hid fun X h => ⟨Since.cell h x0, Since.cell h x1, Since.cell h x2, Since.cell h x3, Since.cell h x4, Since.cell h x5, Since.cell h x6, Since.cell h x7, Since.cell h y0, Since.cell h y1, Since.cell h y2, Since.cell h y3, Since.cell h y4, Since.cell h y5, Since.cell h y6, Since.cell h y7, h⟩
 go_cut [5, 6] (fun s t wx => Both3 W1 [.int .i64 (bitI xr), .int .i64 (bitI xp), .int .i64 xa, .int .i64 xb, .int .i64 (bitI xs), .int .i64 (bitI xq), .int .i64 xc, .int .i64 xd] [.int .i64 (bitI yr), .int .i64 (bitI yp), .int .i64 ya, .int .i64 yb, .int .i64 (bitI ys), .int .i64 (bitI yq), .int .i64 yc, .int .i64 yd] s t wx)
 case first =>
  refine wp_region_noPanic ?_
  refine wp_region_held_drew (S := fun w' => w'.cell? ⟨w.heap.size, 0, none⟩ = some (.int .i64 xa) ∧ w'.cell? ⟨w.heap.size, 1, none⟩ = some (.int .i64 xb) ∧ w'.cell? ⟨w.heap.size, 2, none⟩ = some (.int .i64 xc) ∧ w'.cell? ⟨w.heap.size, 3, none⟩ = some (.int .i64 xd) ∧ w'.cell? ⟨w.heap.size, 4, none⟩ = some (.bool xp) ∧ w'.cell? ⟨w.heap.size, 5, none⟩ = some (.bool xq) ∧ w'.cell? ⟨w.heap.size, 6, none⟩ = some (.bool xr) ∧ w'.cell? ⟨w.heap.size, 7, none⟩ = some (.bool xs) ∧ w'.cell? ⟨N1, 0, none⟩ = some (.int .i64 ya) ∧ w'.cell? ⟨N1, 1, none⟩ = some (.int .i64 yb) ∧ w'.cell? ⟨N1, 2, none⟩ = some (.int .i64 yc) ∧ w'.cell? ⟨N1, 3, none⟩ = some (.int .i64 yd) ∧ w'.cell? ⟨N1, 4, none⟩ = some (.bool yp) ∧ w'.cell? ⟨N1, 5, none⟩ = some (.bool yq) ∧ w'.cell? ⟨N1, 6, none⟩ = some (.bool yr) ∧ w'.cell? ⟨N1, 7, none⟩ = some (.bool ys) ∧ Since W1 w') (by kernel_rfl) (by refine HC.out _ ?_; (repeat (first | with_reducible assumption | with_reducible exact Since.refl _ | with_reducible refine Since.alloc ?_ _ | with_reducible refine Since.drew ?_ | with_reducible refine since_set ?_ ?_ _ _))) (fun hHeld => ?_)
  refine wpAnyH_take (i := 0) (oi := ⟨some 7, Op.load 112 (Operand.tmp 2), 112, _, _, none⟩) (v := ?_) rfl (by kernel_rfl) (by kernel_rfl) (by kernel_rfl) (fun _ _ _ h => h) (Or.inl ⟨by rfl, ?_⟩) (by assumption) ?_
  rotate_left 1
  ·(intro w hSw; (try dsimp only at hSw); go_simp; first | done | with_reducible rfl)
  try simp only [Act.put, List.setIfInBounds_toArray, List.set_cons_zero, List.set_cons_succ]
  refine wpAnyH_take (i := 2) (oi := ⟨some 9, Op.load 112 (Operand.tmp 3), 112, _, _, none⟩) (v := ?_) rfl (by kernel_rfl) (by kernel_rfl) (by kernel_rfl) (fun _ _ _ h => h) (Or.inl ⟨by rfl, ?_⟩) (by assumption) ?_
  rotate_left 1
  ·(intro w hSw; (try dsimp only at hSw); go_simp; first | done | with_reducible rfl)
  try simp only [Act.put, List.setIfInBounds_toArray, List.set_cons_zero, List.set_cons_succ]
  refine wpAnyH_ready (rs := [1, 4, 5]) (by kernel_rfl) (by simp) ?_
  refine AllReadyH.cons (o := ⟨some 8, Op.call { callee := Callee.value (Operand.func 141), args := #[Operand.tmp 7], argTypes := #[112] }, 151, _, _, none⟩) rfl (fun K hK => ?_) (AllReadyH.cons (o := ⟨some 5, Op.alloc 151, 0, _, _, none⟩) rfl (fun K hK => ?_) (AllReadyH.cons (o := ⟨some 6, Op.alloc 151, 0, _, _, none⟩) rfl (fun K hK => ?_) AllReadyH.nil))
  ·go_simp
   go_at_call 141
   refine (KN.out _ _ _ _ _ _ _ _ _).mono ?_
   rintro e v1 ⟨rfl, hr⟩
   have hs1 : Since W1 v1 := by (with_reducible refine Since.step ?_ hr); (repeat (first | with_reducible assumption | with_reducible exact Since.refl _ | with_reducible refine Since.alloc ?_ _ | with_reducible refine Since.drew ?_ | with_reducible refine since_set ?_ ?_ _ _))
   clear hr
   try go_wp2_with fail
   refine hK.out _ _ ?_ (fun hHeld => ?_)
   ·refine HC.out _ ?_; (repeat (first | with_reducible assumption | with_reducible exact Since.refl _ | with_reducible refine Since.alloc ?_ _ | with_reducible refine Since.drew ?_ | with_reducible refine since_set ?_ ?_ _ _))
   clear hK K
   try simp only [Act.put, List.setIfInBounds_toArray, List.set_cons_zero, List.set_cons_succ]
   refine wpAnyH_ready (rs := [3, 4, 5]) (by kernel_rfl) (by simp) ?_
   refine AllReadyH.cons (o := ⟨some 10, Op.call { callee := Callee.value (Operand.func 141), args := #[Operand.tmp 9], argTypes := #[112] }, 151, _, _, none⟩) rfl (fun K hK => ?_) (AllReadyH.cons (o := ⟨some 5, Op.alloc 151, 0, _, _, none⟩) rfl (fun K hK => ?_) (AllReadyH.cons (o := ⟨some 6, Op.alloc 151, 0, _, _, none⟩) rfl (fun K hK => ?_) AllReadyH.nil))
   ·go_simp
    go_at_call 141
    refine (KN.out _ _ _ _ _ _ _ _ _).mono ?_
    rintro e v2 ⟨rfl, hr⟩
    have hs2 : Since W1 v2 := by (with_reducible refine Since.step ?_ hr); (repeat (first | with_reducible assumption | with_reducible exact Since.refl _ | with_reducible refine Since.alloc ?_ _ | with_reducible refine Since.drew ?_ | with_reducible refine since_set ?_ ?_ _ _))
    clear hr
    try go_wp2_with fail
    refine hK.out _ _ ?_ (fun hHeld => ?_)
    ·refine HC.out _ ?_; (repeat (first | with_reducible assumption | with_reducible exact Since.refl _ | with_reducible refine Since.alloc ?_ _ | with_reducible refine Since.drew ?_ | with_reducible refine since_set ?_ ?_ _ _))
    clear hK K
    try simp only [Act.put, List.setIfInBounds_toArray, List.set_cons_zero, List.set_cons_succ]
    refine wpAnyH_ready (rs := [4, 5]) (by kernel_rfl) (by simp) ?_
    refine AllReadyH.cons (o := ⟨some 5, Op.alloc 151, 0, _, _, none⟩) rfl (fun K hK => ?_) (AllReadyH.cons (o := ⟨some 6, Op.alloc 151, 0, _, _, none⟩) rfl (fun K hK => ?_) AllReadyH.nil)
    ·go_simp
     try go_wp2_with fail
     refine hK.out _ _ ?_ (fun hHeld => ?_)
     ·refine HC.out _ ?_; (repeat (first | with_reducible assumption | with_reducible exact Since.refl _ | with_reducible refine Since.alloc ?_ _ | with_reducible refine Since.drew ?_ | with_reducible refine since_set ?_ ?_ _ _))
     clear hK K
     try simp only [Act.put, List.setIfInBounds_toArray, List.set_cons_zero, List.set_cons_succ]
     obtain ⟨v3, hv3⟩ : ∃ v, v = World.alloc v2 (.cells #[.int .i64 0, .int .i64 0, .int .i64 0, .int .i64 0, .int .i64 0, .int .i64 0, .int .i64 0, .int .i64 0] 151) := ⟨_, rfl⟩
     obtain ⟨u3, hu3⟩ : ∃ v, v = World.alloc (World.drew v2) (.cells #[.int .i64 0, .int .i64 0, .int .i64 0, .int .i64 0, .int .i64 0, .int .i64 0, .int .i64 0, .int .i64 0] 151) := ⟨_, rfl⟩
     have hN0 : NewBox W1 [.int .i64 0, .int .i64 0, .int .i64 0, .int .i64 0, .int .i64 0, .int .i64 0, .int .i64 0, .int .i64 0] (World.heap v2).size v3 := by rw [hv3]; exact NewBox.made hs2 _ _
     have hM0 : NewBox W1 [.int .i64 0, .int .i64 0, .int .i64 0, .int .i64 0, .int .i64 0, .int .i64 0, .int .i64 0, .int .i64 0] (World.heap v2).size u3 := by rw [hu3]; exact NewBox.made (Since.drew hs2) _ _
     have hs3 : Since W1 v3 := hN0.2.2
     have hq3 : Since W1 u3 := hM0.2.2
     first | (rw [← hv3]; generalize v3 = y3 at *; have hsy3 := hs3; clear hu3 hM0 hq3 hs3 hv3) | (rw [← hu3]; clear hN0; have hN0 := hM0; generalize u3 = y3 at *; have hsy3 := hq3; clear hv3 hM0 hq3 hu3)
     refine wpAnyH_ready (rs := [5]) (by kernel_rfl) (by simp) ?_
     refine AllReadyH.cons (o := ⟨some 6, Op.alloc 151, 0, _, _, none⟩) rfl (fun K hK => ?_) AllReadyH.nil
     go_simp
     try go_wp2_with fail
     refine hK.out _ _ ?_ (fun hHeld => ?_)
     ·refine HC.out _ ?_; (repeat (first | with_reducible assumption | with_reducible exact Since.refl _ | with_reducible refine Since.alloc ?_ _ | with_reducible refine Since.drew ?_ | with_reducible refine since_set ?_ ?_ _ _))
     clear hK K
     try simp only [Act.put, List.setIfInBounds_toArray, List.set_cons_zero, List.set_cons_succ]
     obtain ⟨v4, hv4⟩ : ∃ v, v = World.alloc y3 (.cells #[.int .i64 0, .int .i64 0, .int .i64 0, .int .i64 0, .int .i64 0, .int .i64 0, .int .i64 0, .int .i64 0] 151) := ⟨_, rfl⟩
     obtain ⟨u4, hu4⟩ : ∃ v, v = World.alloc (World.drew y3) (.cells #[.int .i64 0, .int .i64 0, .int .i64 0, .int .i64 0, .int .i64 0, .int .i64 0, .int .i64 0, .int .i64 0] 151) := ⟨_, rfl⟩
     have hT0 : TwoBox W1 [.int .i64 0, .int .i64 0, .int .i64 0, .int .i64 0, .int .i64 0, .int .i64 0, .int .i64 0, .int .i64 0] (World.heap v2).size (World.heap y3).size v4 := by rw [hv4]; exact TwoBox.madeQ hN0 _
     have hU0 : TwoBox W1 [.int .i64 0, .int .i64 0, .int .i64 0, .int .i64 0, .int .i64 0, .int .i64 0, .int .i64 0, .int .i64 0] (World.heap v2).size (World.heap y3).size u4 := by rw [hu4]; exact TwoBox.madeQ (NewBox.drew hN0) _
     have hs4 : Since W1 v4 := hT0.1.2.2
     have hq4 : Since W1 u4 := hU0.1.2.2
     first | (rw [← hv4]; generalize v4 = y4 at *; have hsy4 := hs4; clear hu4 hU0 hq4 hs4 hv4) | (rw [← hu4]; clear hT0; have hT0 := hU0; generalize u4 = y4 at *; have hsy4 := hq4; clear hv4 hU0 hq4 hu4)
     clear hN0
     have hT := hT0
     obtain ⟨b1_0, b1_1, b1_2, b1_3, b1_4, b1_5, b1_6, b1_7, g1_0, g1_1, g1_2, g1_3, g1_4, g1_5, g1_6, g1_7, -⟩ := hT.1.2.1.all8
     obtain ⟨b2_0, b2_1, b2_2, b2_3, b2_4, b2_5, b2_6, b2_7, g2_0, g2_1, g2_2, g2_3, g2_4, g2_5, g2_6, g2_7, -⟩ := hT.2.1.2.1.all8
     have hp1 := hT.1.1
     have hp2 := hT.2.1.1
     have hne := hT.2.2
     have hne2 := hT.2.2.symm
     refine wpAnyH_ready (rs := [6]) (by kernel_rfl) (by simp) ?_
     refine AllReadyH.cons (o := ⟨none, Op.store 151 (Operand.tmp 5) (Operand.tmp 8), 0, _, _, none⟩) rfl (fun K hK => ?_) AllReadyH.nil
     go_simp
     go_wp2_with fail
     refine hK.out _ _ ?_ (fun hHeld => ?_)
     ·refine HC.out _ ?_; (repeat (first | with_reducible assumption | with_reducible exact Since.refl _ | with_reducible refine Since.alloc ?_ _ | with_reducible refine Since.drew ?_ | with_reducible refine since_set ?_ ?_ _ _))
     clear hK K
     try simp only [Act.put, List.setIfInBounds_toArray, List.set_cons_zero, List.set_cons_succ]
     refine wpAnyH_ready (rs := [7]) (by kernel_rfl) (by simp) ?_
     refine AllReadyH.cons (o := ⟨none, Op.store 151 (Operand.tmp 6) (Operand.tmp 10), 0, _, _, none⟩) rfl (fun K hK => ?_) AllReadyH.nil
     go_simp
     go_wp2_with fail
     refine hK.out _ _ ?_ (fun hHeld => ?_)
     ·refine HC.out _ ?_; (repeat (first | with_reducible assumption | with_reducible exact Since.refl _ | with_reducible refine Since.alloc ?_ _ | with_reducible refine Since.drew ?_ | with_reducible refine since_set ?_ ?_ _ _))
     clear hK K
     try simp only [Act.put, List.setIfInBounds_toArray, List.set_cons_zero, List.set_cons_succ]
     refine wpAnyH_done (by kernel_rfl) ?_ _
     refine NoPanic.normal ?_
     go_wp2_with fail
     go_meet
     exact TwoBox.put8 (z := .int .i64 0) hT
    ·go_simp
     try go_wp2_with fail
     refine hK.out _ _ ?_ (fun hHeld => ?_)
     ·refine HC.out _ ?_; (repeat (first | with_reducible assumption | with_reducible exact Since.refl _ | with_reducible refine Since.alloc ?_ _ | with_reducible refine Since.drew ?_ | with_reducible refine since_set ?_ ?_ _ _))
     clear hK K
     try simp only [Act.put, List.setIfInBounds_toArray, List.set_cons_zero, List.set_cons_succ]
     obtain ⟨v5, hv5⟩ : ∃ v, v = World.alloc v2 (.cells #[.int .i64 0, .int .i64 0, .int .i64 0, .int .i64 0, .int .i64 0, .int .i64 0, .int .i64 0, .int .i64 0] 151) := ⟨_, rfl⟩
     obtain ⟨u5, hu5⟩ : ∃ v, v = World.alloc (World.drew v2) (.cells #[.int .i64 0, .int .i64 0, .int .i64 0, .int .i64 0, .int .i64 0, .int .i64 0, .int .i64 0, .int .i64 0] 151) := ⟨_, rfl⟩
     have hN0 : NewBox W1 [.int .i64 0, .int .i64 0, .int .i64 0, .int .i64 0, .int .i64 0, .int .i64 0, .int .i64 0, .int .i64 0] (World.heap v2).size v5 := by rw [hv5]; exact NewBox.made hs2 _ _
     have hM0 : NewBox W1 [.int .i64 0, .int .i64 0, .int .i64 0, .int .i64 0, .int .i64 0, .int .i64 0, .int .i64 0, .int .i64 0] (World.heap v2).size u5 := by rw [hu5]; exact NewBox.made (Since.drew hs2) _ _
     have hs5 : Since W1 v5 := hN0.2.2
     have hq5 : Since W1 u5 := hM0.2.2
     first | (rw [← hv5]; generalize v5 = y5 at *; have hsy5 := hs5; clear hu5 hM0 hq5 hs5 hv5) | (rw [← hu5]; clear hN0; have hN0 := hM0; generalize u5 = y5 at *; have hsy5 := hq5; clear hv5 hM0 hq5 hu5)
     refine wpAnyH_ready (rs := [4]) (by kernel_rfl) (by simp) ?_
     refine AllReadyH.cons (o := ⟨some 5, Op.alloc 151, 0, _, _, none⟩) rfl (fun K hK => ?_) AllReadyH.nil
     go_simp
     try go_wp2_with fail
     refine hK.out _ _ ?_ (fun hHeld => ?_)
     ·refine HC.out _ ?_; (repeat (first | with_reducible assumption | with_reducible exact Since.refl _ | with_reducible refine Since.alloc ?_ _ | with_reducible refine Since.drew ?_ | with_reducible refine since_set ?_ ?_ _ _))
     clear hK K
     try simp only [Act.put, List.setIfInBounds_toArray, List.set_cons_zero, List.set_cons_succ]
     obtain ⟨v6, hv6⟩ : ∃ v, v = World.alloc y5 (.cells #[.int .i64 0, .int .i64 0, .int .i64 0, .int .i64 0, .int .i64 0, .int .i64 0, .int .i64 0, .int .i64 0] 151) := ⟨_, rfl⟩
     obtain ⟨u6, hu6⟩ : ∃ v, v = World.alloc (World.drew y5) (.cells #[.int .i64 0, .int .i64 0, .int .i64 0, .int .i64 0, .int .i64 0, .int .i64 0, .int .i64 0, .int .i64 0] 151) := ⟨_, rfl⟩
     have hT0 : TwoBox W1 [.int .i64 0, .int .i64 0, .int .i64 0, .int .i64 0, .int .i64 0, .int .i64 0, .int .i64 0, .int .i64 0] (World.heap v2).size (World.heap y5).size v6 := by rw [hv6]; exact TwoBox.madeQ hN0 _
     have hU0 : TwoBox W1 [.int .i64 0, .int .i64 0, .int .i64 0, .int .i64 0, .int .i64 0, .int .i64 0, .int .i64 0, .int .i64 0] (World.heap v2).size (World.heap y5).size u6 := by rw [hu6]; exact TwoBox.madeQ (NewBox.drew hN0) _
     have hs6 : Since W1 v6 := hT0.1.2.2
     have hq6 : Since W1 u6 := hU0.1.2.2
     first | (rw [← hv6]; generalize v6 = y6 at *; have hsy6 := hs6; clear hu6 hU0 hq6 hs6 hv6) | (rw [← hu6]; clear hT0; have hT0 := hU0; generalize u6 = y6 at *; have hsy6 := hq6; clear hv6 hU0 hq6 hu6)
     clear hN0
     have hT := hT0.symm
     obtain ⟨b1_0, b1_1, b1_2, b1_3, b1_4, b1_5, b1_6, b1_7, g1_0, g1_1, g1_2, g1_3, g1_4, g1_5, g1_6, g1_7, -⟩ := hT.1.2.1.all8
     obtain ⟨b2_0, b2_1, b2_2, b2_3, b2_4, b2_5, b2_6, b2_7, g2_0, g2_1, g2_2, g2_3, g2_4, g2_5, g2_6, g2_7, -⟩ := hT.2.1.2.1.all8
     have hp1 := hT.1.1
     have hp2 := hT.2.1.1
     have hne := hT.2.2
     have hne2 := hT.2.2.symm
     refine wpAnyH_ready (rs := [6]) (by kernel_rfl) (by simp) ?_
     refine AllReadyH.cons (o := ⟨none, Op.store 151 (Operand.tmp 5) (Operand.tmp 8), 0, _, _, none⟩) rfl (fun K hK => ?_) AllReadyH.nil
     go_simp
     go_wp2_with fail
     refine hK.out _ _ ?_ (fun hHeld => ?_)
     ·refine HC.out _ ?_; (repeat (first | with_reducible assumption | with_reducible exact Since.refl _ | with_reducible refine Since.alloc ?_ _ | with_reducible refine Since.drew ?_ | with_reducible refine since_set ?_ ?_ _ _))
     clear hK K
     try simp only [Act.put, List.setIfInBounds_toArray, List.set_cons_zero, List.set_cons_succ]
     refine wpAnyH_ready (rs := [7]) (by kernel_rfl) (by simp) ?_
     refine AllReadyH.cons (o := ⟨none, Op.store 151 (Operand.tmp 6) (Operand.tmp 10), 0, _, _, none⟩) rfl (fun K hK => ?_) AllReadyH.nil
     go_simp
     go_wp2_with fail
     refine hK.out _ _ ?_ (fun hHeld => ?_)
     ·refine HC.out _ ?_; (repeat (first | with_reducible assumption | with_reducible exact Since.refl _ | with_reducible refine Since.alloc ?_ _ | with_reducible refine Since.drew ?_ | with_reducible refine since_set ?_ ?_ _ _))
     clear hK K
     try simp only [Act.put, List.setIfInBounds_toArray, List.set_cons_zero, List.set_cons_succ]
     refine wpAnyH_done (by kernel_rfl) ?_ _
     refine NoPanic.normal ?_
     go_wp2_with fail
     go_meet
     exact TwoBox.put8 (z := .int .i64 0) hT
   ·go_simp
    try go_wp2_with fail
    refine hK.out _ _ ?_ (fun hHeld => ?_)
    ·refine HC.out _ ?_; (repeat (first | with_reducible assumption | with_reducible exact Since.refl _ | with_reducible refine Since.alloc ?_ _ | with_reducible refine Since.drew ?_ | with_reducible refine since_set ?_ ?_ _ _))
    clear hK K
    try simp only [Act.put, List.setIfInBounds_toArray, List.set_cons_zero, List.set_cons_succ]
    obtain ⟨v7, hv7⟩ : ∃ v, v = World.alloc v1 (.cells #[.int .i64 0, .int .i64 0, .int .i64 0, .int .i64 0, .int .i64 0, .int .i64 0, .int .i64 0, .int .i64 0] 151) := ⟨_, rfl⟩
    obtain ⟨u7, hu7⟩ : ∃ v, v = World.alloc (World.drew v1) (.cells #[.int .i64 0, .int .i64 0, .int .i64 0, .int .i64 0, .int .i64 0, .int .i64 0, .int .i64 0, .int .i64 0] 151) := ⟨_, rfl⟩
    have hN0 : NewBox W1 [.int .i64 0, .int .i64 0, .int .i64 0, .int .i64 0, .int .i64 0, .int .i64 0, .int .i64 0, .int .i64 0] (World.heap v1).size v7 := by rw [hv7]; exact NewBox.made hs1 _ _
    have hM0 : NewBox W1 [.int .i64 0, .int .i64 0, .int .i64 0, .int .i64 0, .int .i64 0, .int .i64 0, .int .i64 0, .int .i64 0] (World.heap v1).size u7 := by rw [hu7]; exact NewBox.made (Since.drew hs1) _ _
    have hs7 : Since W1 v7 := hN0.2.2
    have hq7 : Since W1 u7 := hM0.2.2
    first | (rw [← hv7]; generalize v7 = y7 at *; have hsy7 := hs7; clear hu7 hM0 hq7 hs7 hv7) | (rw [← hu7]; clear hN0; have hN0 := hM0; generalize u7 = y7 at *; have hsy7 := hq7; clear hv7 hM0 hq7 hu7)
    refine wpAnyH_ready (rs := [3, 5]) (by kernel_rfl) (by simp) ?_
    refine AllReadyH.cons (o := ⟨some 10, Op.call { callee := Callee.value (Operand.func 141), args := #[Operand.tmp 9], argTypes := #[112] }, 151, _, _, none⟩) rfl (fun K hK => ?_) (AllReadyH.cons (o := ⟨some 6, Op.alloc 151, 0, _, _, none⟩) rfl (fun K hK => ?_) AllReadyH.nil)
    ·go_simp
     go_at_call 141
     refine (KN.out _ _ _ _ _ _ _ _ _).mono ?_
     rintro e v8 ⟨rfl, hr⟩
     have hs8 : Since W1 v8 := by (with_reducible refine Since.step ?_ hr); (repeat (first | with_reducible assumption | with_reducible exact Since.refl _ | with_reducible refine Since.alloc ?_ _ | with_reducible refine Since.drew ?_ | with_reducible refine since_set ?_ ?_ _ _))
     first | have hN0 := hN0.step hr | have hN0 := (NewBox.drew hN0).step hr
     clear hr
     try go_wp2_with fail
     refine hK.out _ _ ?_ (fun hHeld => ?_)
     ·refine HC.out _ ?_; (repeat (first | with_reducible assumption | with_reducible exact Since.refl _ | with_reducible refine Since.alloc ?_ _ | with_reducible refine Since.drew ?_ | with_reducible refine since_set ?_ ?_ _ _))
     clear hK K
     try simp only [Act.put, List.setIfInBounds_toArray, List.set_cons_zero, List.set_cons_succ]
     refine wpAnyH_ready (rs := [5]) (by kernel_rfl) (by simp) ?_
     refine AllReadyH.cons (o := ⟨some 6, Op.alloc 151, 0, _, _, none⟩) rfl (fun K hK => ?_) AllReadyH.nil
     go_simp
     try go_wp2_with fail
     refine hK.out _ _ ?_ (fun hHeld => ?_)
     ·refine HC.out _ ?_; (repeat (first | with_reducible assumption | with_reducible exact Since.refl _ | with_reducible refine Since.alloc ?_ _ | with_reducible refine Since.drew ?_ | with_reducible refine since_set ?_ ?_ _ _))
     clear hK K
     try simp only [Act.put, List.setIfInBounds_toArray, List.set_cons_zero, List.set_cons_succ]
     obtain ⟨v9, hv9⟩ : ∃ v, v = World.alloc v8 (.cells #[.int .i64 0, .int .i64 0, .int .i64 0, .int .i64 0, .int .i64 0, .int .i64 0, .int .i64 0, .int .i64 0] 151) := ⟨_, rfl⟩
     obtain ⟨u9, hu9⟩ : ∃ v, v = World.alloc (World.drew v8) (.cells #[.int .i64 0, .int .i64 0, .int .i64 0, .int .i64 0, .int .i64 0, .int .i64 0, .int .i64 0, .int .i64 0] 151) := ⟨_, rfl⟩
     have hT0 : TwoBox W1 [.int .i64 0, .int .i64 0, .int .i64 0, .int .i64 0, .int .i64 0, .int .i64 0, .int .i64 0, .int .i64 0] (World.heap v1).size (World.heap v8).size v9 := by rw [hv9]; exact TwoBox.madeQ hN0 _
     have hU0 : TwoBox W1 [.int .i64 0, .int .i64 0, .int .i64 0, .int .i64 0, .int .i64 0, .int .i64 0, .int .i64 0, .int .i64 0] (World.heap v1).size (World.heap v8).size u9 := by rw [hu9]; exact TwoBox.madeQ (NewBox.drew hN0) _
     have hs9 : Since W1 v9 := hT0.1.2.2
     have hq9 : Since W1 u9 := hU0.1.2.2
     first | (rw [← hv9]; generalize v9 = y9 at *; have hsy9 := hs9; clear hu9 hU0 hq9 hs9 hv9) | (rw [← hu9]; clear hT0; have hT0 := hU0; generalize u9 = y9 at *; have hsy9 := hq9; clear hv9 hU0 hq9 hu9)
     clear hN0
     have hT := hT0
     obtain ⟨b1_0, b1_1, b1_2, b1_3, b1_4, b1_5, b1_6, b1_7, g1_0, g1_1, g1_2, g1_3, g1_4, g1_5, g1_6, g1_7, -⟩ := hT.1.2.1.all8
     obtain ⟨b2_0, b2_1, b2_2, b2_3, b2_4, b2_5, b2_6, b2_7, g2_0, g2_1, g2_2, g2_3, g2_4, g2_5, g2_6, g2_7, -⟩ := hT.2.1.2.1.all8
     have hp1 := hT.1.1
     have hp2 := hT.2.1.1
     have hne := hT.2.2
     have hne2 := hT.2.2.symm
     refine wpAnyH_ready (rs := [6]) (by kernel_rfl) (by simp) ?_
     refine AllReadyH.cons (o := ⟨none, Op.store 151 (Operand.tmp 5) (Operand.tmp 8), 0, _, _, none⟩) rfl (fun K hK => ?_) AllReadyH.nil
     go_simp
     go_wp2_with fail
     refine hK.out _ _ ?_ (fun hHeld => ?_)
     ·refine HC.out _ ?_; (repeat (first | with_reducible assumption | with_reducible exact Since.refl _ | with_reducible refine Since.alloc ?_ _ | with_reducible refine Since.drew ?_ | with_reducible refine since_set ?_ ?_ _ _))
     clear hK K
     try simp only [Act.put, List.setIfInBounds_toArray, List.set_cons_zero, List.set_cons_succ]
     refine wpAnyH_ready (rs := [7]) (by kernel_rfl) (by simp) ?_
     refine AllReadyH.cons (o := ⟨none, Op.store 151 (Operand.tmp 6) (Operand.tmp 10), 0, _, _, none⟩) rfl (fun K hK => ?_) AllReadyH.nil
     go_simp
     go_wp2_with fail
     refine hK.out _ _ ?_ (fun hHeld => ?_)
     ·refine HC.out _ ?_; (repeat (first | with_reducible assumption | with_reducible exact Since.refl _ | with_reducible refine Since.alloc ?_ _ | with_reducible refine Since.drew ?_ | with_reducible refine since_set ?_ ?_ _ _))
     clear hK K
     try simp only [Act.put, List.setIfInBounds_toArray, List.set_cons_zero, List.set_cons_succ]
     refine wpAnyH_done (by kernel_rfl) ?_ _
     refine NoPanic.normal ?_
     go_wp2_with fail
     go_meet
     exact TwoBox.put8 (z := .int .i64 0) hT
    ·go_simp
     try go_wp2_with fail
     refine hK.out _ _ ?_ (fun hHeld => ?_)
     ·refine HC.out _ ?_; (repeat (first | with_reducible assumption | with_reducible exact Since.refl _ | with_reducible refine Since.alloc ?_ _ | with_reducible refine Since.drew ?_ | with_reducible refine since_set ?_ ?_ _ _))
     clear hK K
     try simp only [Act.put, List.setIfInBounds_toArray, List.set_cons_zero, List.set_cons_succ]
     obtain ⟨v10, hv10⟩ : ∃ v, v = World.alloc y7 (.cells #[.int .i64 0, .int .i64 0, .int .i64 0, .int .i64 0, .int .i64 0, .int .i64 0, .int .i64 0, .int .i64 0] 151) := ⟨_, rfl⟩
     obtain ⟨u10, hu10⟩ : ∃ v, v = World.alloc (World.drew y7) (.cells #[.int .i64 0, .int .i64 0, .int .i64 0, .int .i64 0, .int .i64 0, .int .i64 0, .int .i64 0, .int .i64 0] 151) := ⟨_, rfl⟩
     have hT0 : TwoBox W1 [.int .i64 0, .int .i64 0, .int .i64 0, .int .i64 0, .int .i64 0, .int .i64 0, .int .i64 0, .int .i64 0] (World.heap v1).size (World.heap y7).size v10 := by rw [hv10]; exact TwoBox.madeQ hN0 _
     have hU0 : TwoBox W1 [.int .i64 0, .int .i64 0, .int .i64 0, .int .i64 0, .int .i64 0, .int .i64 0, .int .i64 0, .int .i64 0] (World.heap v1).size (World.heap y7).size u10 := by rw [hu10]; exact TwoBox.madeQ (NewBox.drew hN0) _
     have hs10 : Since W1 v10 := hT0.1.2.2
     have hq10 : Since W1 u10 := hU0.1.2.2
     first | (rw [← hv10]; generalize v10 = y10 at *; have hsy10 := hs10; clear hu10 hU0 hq10 hs10 hv10) | (rw [← hu10]; clear hT0; have hT0 := hU0; generalize u10 = y10 at *; have hsy10 := hq10; clear hv10 hU0 hq10 hu10)
     clear hN0
     refine wpAnyH_ready (rs := [3]) (by kernel_rfl) (by simp) ?_
     refine AllReadyH.cons (o := ⟨some 10, Op.call { callee := Callee.value (Operand.func 141), args := #[Operand.tmp 9], argTypes := #[112] }, 151, _, _, none⟩) rfl (fun K hK => ?_) AllReadyH.nil
     go_simp
     go_at_call 141
     refine (KN.out _ _ _ _ _ _ _ _ _).mono ?_
     rintro e v11 ⟨rfl, hr⟩
     have hs11 : Since W1 v11 := by (with_reducible refine Since.step ?_ hr); (repeat (first | with_reducible assumption | with_reducible exact Since.refl _ | with_reducible refine Since.alloc ?_ _ | with_reducible refine Since.drew ?_ | with_reducible refine since_set ?_ ?_ _ _))
     first | have hT0 := hT0.step hr | have hT0 := (TwoBox.drew hT0).step hr
     clear hr
     try go_wp2_with fail
     refine hK.out _ _ ?_ (fun hHeld => ?_)
     ·refine HC.out _ ?_; (repeat (first | with_reducible assumption | with_reducible exact Since.refl _ | with_reducible refine Since.alloc ?_ _ | with_reducible refine Since.drew ?_ | with_reducible refine since_set ?_ ?_ _ _))
     clear hK K
     try simp only [Act.put, List.setIfInBounds_toArray, List.set_cons_zero, List.set_cons_succ]
     have hT := hT0
     obtain ⟨b1_0, b1_1, b1_2, b1_3, b1_4, b1_5, b1_6, b1_7, g1_0, g1_1, g1_2, g1_3, g1_4, g1_5, g1_6, g1_7, -⟩ := hT.1.2.1.all8
     obtain ⟨b2_0, b2_1, b2_2, b2_3, b2_4, b2_5, b2_6, b2_7, g2_0, g2_1, g2_2, g2_3, g2_4, g2_5, g2_6, g2_7, -⟩ := hT.2.1.2.1.all8
     have hp1 := hT.1.1
     have hp2 := hT.2.1.1
     have hne := hT.2.2
     have hne2 := hT.2.2.symm
     refine wpAnyH_ready (rs := [6]) (by kernel_rfl) (by simp) ?_
     refine AllReadyH.cons (o := ⟨none, Op.store 151 (Operand.tmp 5) (Operand.tmp 8), 0, _, _, none⟩) rfl (fun K hK => ?_) AllReadyH.nil
     go_simp
     go_wp2_with fail
     refine hK.out _ _ ?_ (fun hHeld => ?_)
     ·refine HC.out _ ?_; (repeat (first | with_reducible assumption | with_reducible exact Since.refl _ | with_reducible refine Since.alloc ?_ _ | with_reducible refine Since.drew ?_ | with_reducible refine since_set ?_ ?_ _ _))
     clear hK K
     try simp only [Act.put, List.setIfInBounds_toArray, List.set_cons_zero, List.set_cons_succ]
     refine wpAnyH_ready (rs := [7]) (by kernel_rfl) (by simp) ?_
     refine AllReadyH.cons (o := ⟨none, Op.store 151 (Operand.tmp 6) (Operand.tmp 10), 0, _, _, none⟩) rfl (fun K hK => ?_) AllReadyH.nil
     go_simp
     go_wp2_with fail
     refine hK.out _ _ ?_ (fun hHeld => ?_)
     ·refine HC.out _ ?_; (repeat (first | with_reducible assumption | with_reducible exact Since.refl _ | with_reducible refine Since.alloc ?_ _ | with_reducible refine Since.drew ?_ | with_reducible refine since_set ?_ ?_ _ _))
     clear hK K
     try simp only [Act.put, List.setIfInBounds_toArray, List.set_cons_zero, List.set_cons_succ]
     refine wpAnyH_done (by kernel_rfl) ?_ _
     refine NoPanic.normal ?_
     go_wp2_with fail
     go_meet
     exact TwoBox.put8 (z := .int .i64 0) hT
   ·go_simp
    try go_wp2_with fail
    refine hK.out _ _ ?_ (fun hHeld => ?_)
    ·refine HC.out _ ?_; (repeat (first | with_reducible assumption | with_reducible exact Since.refl _ | with_reducible refine Since.alloc ?_ _ | with_reducible refine Since.drew ?_ | with_reducible refine since_set ?_ ?_ _ _))
    clear hK K
    try simp only [Act.put, List.setIfInBounds_toArray, List.set_cons_zero, List.set_cons_succ]
    obtain ⟨v12, hv12⟩ : ∃ v, v = World.alloc v1 (.cells #[.int .i64 0, .int .i64 0, .int .i64 0, .int .i64 0, .int .i64 0, .int .i64 0, .int .i64 0, .int .i64 0] 151) := ⟨_, rfl⟩
    obtain ⟨u12, hu12⟩ : ∃ v, v = World.alloc (World.drew v1) (.cells #[.int .i64 0, .int .i64 0, .int .i64 0, .int .i64 0, .int .i64 0, .int .i64 0, .int .i64 0, .int .i64 0] 151) := ⟨_, rfl⟩
    have hN0 : NewBox W1 [.int .i64 0, .int .i64 0, .int .i64 0, .int .i64 0, .int .i64 0, .int .i64 0, .int .i64 0, .int .i64 0] (World.heap v1).size v12 := by rw [hv12]; exact NewBox.made hs1 _ _
    have hM0 : NewBox W1 [.int .i64 0, .int .i64 0, .int .i64 0, .int .i64 0, .int .i64 0, .int .i64 0, .int .i64 0, .int .i64 0] (World.heap v1).size u12 := by rw [hu12]; exact NewBox.made (Since.drew hs1) _ _
    have hs12 : Since W1 v12 := hN0.2.2
    have hq12 : Since W1 u12 := hM0.2.2
    first | (rw [← hv12]; generalize v12 = y12 at *; have hsy12 := hs12; clear hu12 hM0 hq12 hs12 hv12) | (rw [← hu12]; clear hN0; have hN0 := hM0; generalize u12 = y12 at *; have hsy12 := hq12; clear hv12 hM0 hq12 hu12)
    refine wpAnyH_ready (rs := [3, 4]) (by kernel_rfl) (by simp) ?_
    refine AllReadyH.cons (o := ⟨some 10, Op.call { callee := Callee.value (Operand.func 141), args := #[Operand.tmp 9], argTypes := #[112] }, 151, _, _, none⟩) rfl (fun K hK => ?_) (AllReadyH.cons (o := ⟨some 5, Op.alloc 151, 0, _, _, none⟩) rfl (fun K hK => ?_) AllReadyH.nil)
    ·go_simp
     go_at_call 141
     refine (KN.out _ _ _ _ _ _ _ _ _).mono ?_
     rintro e v13 ⟨rfl, hr⟩
     have hs13 : Since W1 v13 := by (with_reducible refine Since.step ?_ hr); (repeat (first | with_reducible assumption | with_reducible exact Since.refl _ | with_reducible refine Since.alloc ?_ _ | with_reducible refine Since.drew ?_ | with_reducible refine since_set ?_ ?_ _ _))
     first | have hN0 := hN0.step hr | have hN0 := (NewBox.drew hN0).step hr
     clear hr
     try go_wp2_with fail
     refine hK.out _ _ ?_ (fun hHeld => ?_)
     ·refine HC.out _ ?_; (repeat (first | with_reducible assumption | with_reducible exact Since.refl _ | with_reducible refine Since.alloc ?_ _ | with_reducible refine Since.drew ?_ | with_reducible refine since_set ?_ ?_ _ _))
     clear hK K
     try simp only [Act.put, List.setIfInBounds_toArray, List.set_cons_zero, List.set_cons_succ]
     refine wpAnyH_ready (rs := [4]) (by kernel_rfl) (by simp) ?_
     refine AllReadyH.cons (o := ⟨some 5, Op.alloc 151, 0, _, _, none⟩) rfl (fun K hK => ?_) AllReadyH.nil
     go_simp
     try go_wp2_with fail
     refine hK.out _ _ ?_ (fun hHeld => ?_)
     ·refine HC.out _ ?_; (repeat (first | with_reducible assumption | with_reducible exact Since.refl _ | with_reducible refine Since.alloc ?_ _ | with_reducible refine Since.drew ?_ | with_reducible refine since_set ?_ ?_ _ _))
     clear hK K
     try simp only [Act.put, List.setIfInBounds_toArray, List.set_cons_zero, List.set_cons_succ]
     obtain ⟨v14, hv14⟩ : ∃ v, v = World.alloc v13 (.cells #[.int .i64 0, .int .i64 0, .int .i64 0, .int .i64 0, .int .i64 0, .int .i64 0, .int .i64 0, .int .i64 0] 151) := ⟨_, rfl⟩
     obtain ⟨u14, hu14⟩ : ∃ v, v = World.alloc (World.drew v13) (.cells #[.int .i64 0, .int .i64 0, .int .i64 0, .int .i64 0, .int .i64 0, .int .i64 0, .int .i64 0, .int .i64 0] 151) := ⟨_, rfl⟩
     have hT0 : TwoBox W1 [.int .i64 0, .int .i64 0, .int .i64 0, .int .i64 0, .int .i64 0, .int .i64 0, .int .i64 0, .int .i64 0] (World.heap v1).size (World.heap v13).size v14 := by rw [hv14]; exact TwoBox.madeQ hN0 _
     have hU0 : TwoBox W1 [.int .i64 0, .int .i64 0, .int .i64 0, .int .i64 0, .int .i64 0, .int .i64 0, .int .i64 0, .int .i64 0] (World.heap v1).size (World.heap v13).size u14 := by rw [hu14]; exact TwoBox.madeQ (NewBox.drew hN0) _
     have hs14 : Since W1 v14 := hT0.1.2.2
     have hq14 : Since W1 u14 := hU0.1.2.2
     first | (rw [← hv14]; generalize v14 = y14 at *; have hsy14 := hs14; clear hu14 hU0 hq14 hs14 hv14) | (rw [← hu14]; clear hT0; have hT0 := hU0; generalize u14 = y14 at *; have hsy14 := hq14; clear hv14 hU0 hq14 hu14)
     clear hN0
     have hT := hT0.symm
     obtain ⟨b1_0, b1_1, b1_2, b1_3, b1_4, b1_5, b1_6, b1_7, g1_0, g1_1, g1_2, g1_3, g1_4, g1_5, g1_6, g1_7, -⟩ := hT.1.2.1.all8
     obtain ⟨b2_0, b2_1, b2_2, b2_3, b2_4, b2_5, b2_6, b2_7, g2_0, g2_1, g2_2, g2_3, g2_4, g2_5, g2_6, g2_7, -⟩ := hT.2.1.2.1.all8
     have hp1 := hT.1.1
     have hp2 := hT.2.1.1
     have hne := hT.2.2
     have hne2 := hT.2.2.symm
     refine wpAnyH_ready (rs := [6]) (by kernel_rfl) (by simp) ?_
     refine AllReadyH.cons (o := ⟨none, Op.store 151 (Operand.tmp 5) (Operand.tmp 8), 0, _, _, none⟩) rfl (fun K hK => ?_) AllReadyH.nil
     go_simp
     go_wp2_with fail
     refine hK.out _ _ ?_ (fun hHeld => ?_)
     ·refine HC.out _ ?_; (repeat (first | with_reducible assumption | with_reducible exact Since.refl _ | with_reducible refine Since.alloc ?_ _ | with_reducible refine Since.drew ?_ | with_reducible refine since_set ?_ ?_ _ _))
     clear hK K
     try simp only [Act.put, List.setIfInBounds_toArray, List.set_cons_zero, List.set_cons_succ]
     refine wpAnyH_ready (rs := [7]) (by kernel_rfl) (by simp) ?_
     refine AllReadyH.cons (o := ⟨none, Op.store 151 (Operand.tmp 6) (Operand.tmp 10), 0, _, _, none⟩) rfl (fun K hK => ?_) AllReadyH.nil
     go_simp
     go_wp2_with fail
     refine hK.out _ _ ?_ (fun hHeld => ?_)
     ·refine HC.out _ ?_; (repeat (first | with_reducible assumption | with_reducible exact Since.refl _ | with_reducible refine Since.alloc ?_ _ | with_reducible refine Since.drew ?_ | with_reducible refine since_set ?_ ?_ _ _))
     clear hK K
     try simp only [Act.put, List.setIfInBounds_toArray, List.set_cons_zero, List.set_cons_succ]
     refine wpAnyH_done (by kernel_rfl) ?_ _
     refine NoPanic.normal ?_
     go_wp2_with fail
     go_meet
     exact TwoBox.put8 (z := .int .i64 0) hT
    ·go_simp
     try go_wp2_with fail
     refine hK.out _ _ ?_ (fun hHeld => ?_)
     ·refine HC.out _ ?_; (repeat (first | with_reducible assumption | with_reducible exact Since.refl _ | with_reducible refine Since.alloc ?_ _ | with_reducible refine Since.drew ?_ | with_reducible refine since_set ?_ ?_ _ _))
     clear hK K
     try simp only [Act.put, List.setIfInBounds_toArray, List.set_cons_zero, List.set_cons_succ]
     obtain ⟨v15, hv15⟩ : ∃ v, v = World.alloc y12 (.cells #[.int .i64 0, .int .i64 0, .int .i64 0, .int .i64 0, .int .i64 0, .int .i64 0, .int .i64 0, .int .i64 0] 151) := ⟨_, rfl⟩
     obtain ⟨u15, hu15⟩ : ∃ v, v = World.alloc (World.drew y12) (.cells #[.int .i64 0, .int .i64 0, .int .i64 0, .int .i64 0, .int .i64 0, .int .i64 0, .int .i64 0, .int .i64 0] 151) := ⟨_, rfl⟩
     have hT0 : TwoBox W1 [.int .i64 0, .int .i64 0, .int .i64 0, .int .i64 0, .int .i64 0, .int .i64 0, .int .i64 0, .int .i64 0] (World.heap v1).size (World.heap y12).size v15 := by rw [hv15]; exact TwoBox.madeQ hN0 _
     have hU0 : TwoBox W1 [.int .i64 0, .int .i64 0, .int .i64 0, .int .i64 0, .int .i64 0, .int .i64 0, .int .i64 0, .int .i64 0] (World.heap v1).size (World.heap y12).size u15 := by rw [hu15]; exact TwoBox.madeQ (NewBox.drew hN0) _
     have hs15 : Since W1 v15 := hT0.1.2.2
     have hq15 : Since W1 u15 := hU0.1.2.2
     first | (rw [← hv15]; generalize v15 = y15 at *; have hsy15 := hs15; clear hu15 hU0 hq15 hs15 hv15) | (rw [← hu15]; clear hT0; have hT0 := hU0; generalize u15 = y15 at *; have hsy15 := hq15; clear hv15 hU0 hq15 hu15)
     clear hN0
     refine wpAnyH_ready (rs := [3]) (by kernel_rfl) (by simp) ?_
     refine AllReadyH.cons (o := ⟨some 10, Op.call { callee := Callee.value (Operand.func 141), args := #[Operand.tmp 9], argTypes := #[112] }, 151, _, _, none⟩) rfl (fun K hK => ?_) AllReadyH.nil
     go_simp
     go_at_call 141
     refine (KN.out _ _ _ _ _ _ _ _ _).mono ?_
     rintro e v16 ⟨rfl, hr⟩
     have hs16 : Since W1 v16 := by (with_reducible refine Since.step ?_ hr); (repeat (first | with_reducible assumption | with_reducible exact Since.refl _ | with_reducible refine Since.alloc ?_ _ | with_reducible refine Since.drew ?_ | with_reducible refine since_set ?_ ?_ _ _))
     first | have hT0 := hT0.step hr | have hT0 := (TwoBox.drew hT0).step hr
     clear hr
     try go_wp2_with fail
     refine hK.out _ _ ?_ (fun hHeld => ?_)
     ·refine HC.out _ ?_; (repeat (first | with_reducible assumption | with_reducible exact Since.refl _ | with_reducible refine Since.alloc ?_ _ | with_reducible refine Since.drew ?_ | with_reducible refine since_set ?_ ?_ _ _))
     clear hK K
     try simp only [Act.put, List.setIfInBounds_toArray, List.set_cons_zero, List.set_cons_succ]
     have hT := hT0.symm
     obtain ⟨b1_0, b1_1, b1_2, b1_3, b1_4, b1_5, b1_6, b1_7, g1_0, g1_1, g1_2, g1_3, g1_4, g1_5, g1_6, g1_7, -⟩ := hT.1.2.1.all8
     obtain ⟨b2_0, b2_1, b2_2, b2_3, b2_4, b2_5, b2_6, b2_7, g2_0, g2_1, g2_2, g2_3, g2_4, g2_5, g2_6, g2_7, -⟩ := hT.2.1.2.1.all8
     have hp1 := hT.1.1
     have hp2 := hT.2.1.1
     have hne := hT.2.2
     have hne2 := hT.2.2.symm
     refine wpAnyH_ready (rs := [6]) (by kernel_rfl) (by simp) ?_
     refine AllReadyH.cons (o := ⟨none, Op.store 151 (Operand.tmp 5) (Operand.tmp 8), 0, _, _, none⟩) rfl (fun K hK => ?_) AllReadyH.nil
     go_simp
     go_wp2_with fail
     refine hK.out _ _ ?_ (fun hHeld => ?_)
     ·refine HC.out _ ?_; (repeat (first | with_reducible assumption | with_reducible exact Since.refl _ | with_reducible refine Since.alloc ?_ _ | with_reducible refine Since.drew ?_ | with_reducible refine since_set ?_ ?_ _ _))
     clear hK K
     try simp only [Act.put, List.setIfInBounds_toArray, List.set_cons_zero, List.set_cons_succ]
     refine wpAnyH_ready (rs := [7]) (by kernel_rfl) (by simp) ?_
     refine AllReadyH.cons (o := ⟨none, Op.store 151 (Operand.tmp 6) (Operand.tmp 10), 0, _, _, none⟩) rfl (fun K hK => ?_) AllReadyH.nil
     go_simp
     go_wp2_with fail
     refine hK.out _ _ ?_ (fun hHeld => ?_)
     ·refine HC.out _ ?_; (repeat (first | with_reducible assumption | with_reducible exact Since.refl _ | with_reducible refine Since.alloc ?_ _ | with_reducible refine Since.drew ?_ | with_reducible refine since_set ?_ ?_ _ _))
     clear hK K
     try simp only [Act.put, List.setIfInBounds_toArray, List.set_cons_zero, List.set_cons_succ]
     refine wpAnyH_done (by kernel_rfl) ?_ _
     refine NoPanic.normal ?_
     go_wp2_with fail
     go_meet
     exact TwoBox.put8 (z := .int .i64 0) hT
  ·go_simp
   try go_wp2_with fail
   refine hK.out _ _ ?_ (fun hHeld => ?_)
   ·refine HC.out _ ?_; (repeat (first | with_reducible assumption | with_reducible exact Since.refl _ | with_reducible refine Since.alloc ?_ _ | with_reducible refine Since.drew ?_ | with_reducible refine since_set ?_ ?_ _ _))
   clear hK K
   try simp only [Act.put, List.setIfInBounds_toArray, List.set_cons_zero, List.set_cons_succ]
   obtain ⟨v17, hv17⟩ : ∃ v, v = World.alloc W1 (.cells #[.int .i64 0, .int .i64 0, .int .i64 0, .int .i64 0, .int .i64 0, .int .i64 0, .int .i64 0, .int .i64 0] 151) := ⟨_, rfl⟩
   obtain ⟨u17, hu17⟩ : ∃ v, v = World.alloc (World.drew W1) (.cells #[.int .i64 0, .int .i64 0, .int .i64 0, .int .i64 0, .int .i64 0, .int .i64 0, .int .i64 0, .int .i64 0] 151) := ⟨_, rfl⟩
   have hN0 : NewBox W1 [.int .i64 0, .int .i64 0, .int .i64 0, .int .i64 0, .int .i64 0, .int .i64 0, .int .i64 0, .int .i64 0] (World.heap W1).size v17 := by rw [hv17]; exact NewBox.made (Since.refl W1) _ _
   have hM0 : NewBox W1 [.int .i64 0, .int .i64 0, .int .i64 0, .int .i64 0, .int .i64 0, .int .i64 0, .int .i64 0, .int .i64 0] (World.heap W1).size u17 := by rw [hu17]; exact NewBox.made (Since.drew (Since.refl W1)) _ _
   have hs17 : Since W1 v17 := hN0.2.2
   have hq17 : Since W1 u17 := hM0.2.2
   first | (rw [← hv17]; generalize v17 = y17 at *; have hsy17 := hs17; clear hu17 hM0 hq17 hs17 hv17) | (rw [← hu17]; clear hN0; have hN0 := hM0; generalize u17 = y17 at *; have hsy17 := hq17; clear hv17 hM0 hq17 hu17)
   refine wpAnyH_ready (rs := [1, 5]) (by kernel_rfl) (by simp) ?_
   refine AllReadyH.cons (o := ⟨some 8, Op.call { callee := Callee.value (Operand.func 141), args := #[Operand.tmp 7], argTypes := #[112] }, 151, _, _, none⟩) rfl (fun K hK => ?_) (AllReadyH.cons (o := ⟨some 6, Op.alloc 151, 0, _, _, none⟩) rfl (fun K hK => ?_) AllReadyH.nil)
   ·go_simp
    go_at_call 141
    refine (KN.out _ _ _ _ _ _ _ _ _).mono ?_
    rintro e v18 ⟨rfl, hr⟩
    have hs18 : Since W1 v18 := by (with_reducible refine Since.step ?_ hr); (repeat (first | with_reducible assumption | with_reducible exact Since.refl _ | with_reducible refine Since.alloc ?_ _ | with_reducible refine Since.drew ?_ | with_reducible refine since_set ?_ ?_ _ _))
    first | have hN0 := hN0.step hr | have hN0 := (NewBox.drew hN0).step hr
    clear hr
    try go_wp2_with fail
    refine hK.out _ _ ?_ (fun hHeld => ?_)
    ·refine HC.out _ ?_; (repeat (first | with_reducible assumption | with_reducible exact Since.refl _ | with_reducible refine Since.alloc ?_ _ | with_reducible refine Since.drew ?_ | with_reducible refine since_set ?_ ?_ _ _))
    clear hK K
    try simp only [Act.put, List.setIfInBounds_toArray, List.set_cons_zero, List.set_cons_succ]
    refine wpAnyH_ready (rs := [3, 5]) (by kernel_rfl) (by simp) ?_
    refine AllReadyH.cons (o := ⟨some 10, Op.call { callee := Callee.value (Operand.func 141), args := #[Operand.tmp 9], argTypes := #[112] }, 151, _, _, none⟩) rfl (fun K hK => ?_) (AllReadyH.cons (o := ⟨some 6, Op.alloc 151, 0, _, _, none⟩) rfl (fun K hK => ?_) AllReadyH.nil)
    ·go_simp
     go_at_call 141
     refine (KN.out _ _ _ _ _ _ _ _ _).mono ?_
     rintro e v19 ⟨rfl, hr⟩
     have hs19 : Since W1 v19 := by (with_reducible refine Since.step ?_ hr); (repeat (first | with_reducible assumption | with_reducible exact Since.refl _ | with_reducible refine Since.alloc ?_ _ | with_reducible refine Since.drew ?_ | with_reducible refine since_set ?_ ?_ _ _))
     first | have hN0 := hN0.step hr | have hN0 := (NewBox.drew hN0).step hr
     clear hr
     try go_wp2_with fail
     refine hK.out _ _ ?_ (fun hHeld => ?_)
     ·refine HC.out _ ?_; (repeat (first | with_reducible assumption | with_reducible exact Since.refl _ | with_reducible refine Since.alloc ?_ _ | with_reducible refine Since.drew ?_ | with_reducible refine since_set ?_ ?_ _ _))
     clear hK K
     try simp only [Act.put, List.setIfInBounds_toArray, List.set_cons_zero, List.set_cons_succ]
     refine wpAnyH_ready (rs := [5]) (by kernel_rfl) (by simp) ?_
     refine AllReadyH.cons (o := ⟨some 6, Op.alloc 151, 0, _, _, none⟩) rfl (fun K hK => ?_) AllReadyH.nil
     go_simp
     try go_wp2_with fail
     refine hK.out _ _ ?_ (fun hHeld => ?_)
     ·refine HC.out _ ?_; (repeat (first | with_reducible assumption | with_reducible exact Since.refl _ | with_reducible refine Since.alloc ?_ _ | with_reducible refine Since.drew ?_ | with_reducible refine since_set ?_ ?_ _ _))
     clear hK K
     try simp only [Act.put, List.setIfInBounds_toArray, List.set_cons_zero, List.set_cons_succ]
     obtain ⟨v20, hv20⟩ : ∃ v, v = World.alloc v19 (.cells #[.int .i64 0, .int .i64 0, .int .i64 0, .int .i64 0, .int .i64 0, .int .i64 0, .int .i64 0, .int .i64 0] 151) := ⟨_, rfl⟩
     obtain ⟨u20, hu20⟩ : ∃ v, v = World.alloc (World.drew v19) (.cells #[.int .i64 0, .int .i64 0, .int .i64 0, .int .i64 0, .int .i64 0, .int .i64 0, .int .i64 0, .int .i64 0] 151) := ⟨_, rfl⟩
     have hT0 : TwoBox W1 [.int .i64 0, .int .i64 0, .int .i64 0, .int .i64 0, .int .i64 0, .int .i64 0, .int .i64 0, .int .i64 0] (World.heap W1).size (World.heap v19).size v20 := by rw [hv20]; exact TwoBox.madeQ hN0 _
     have hU0 : TwoBox W1 [.int .i64 0, .int .i64 0, .int .i64 0, .int .i64 0, .int .i64 0, .int .i64 0, .int .i64 0, .int .i64 0] (World.heap W1).size (World.heap v19).size u20 := by rw [hu20]; exact TwoBox.madeQ (NewBox.drew hN0) _
     have hs20 : Since W1 v20 := hT0.1.2.2
     have hq20 : Since W1 u20 := hU0.1.2.2
     first | (rw [← hv20]; generalize v20 = y20 at *; have hsy20 := hs20; clear hu20 hU0 hq20 hs20 hv20) | (rw [← hu20]; clear hT0; have hT0 := hU0; generalize u20 = y20 at *; have hsy20 := hq20; clear hv20 hU0 hq20 hu20)
     clear hN0
     have hT := hT0
     obtain ⟨b1_0, b1_1, b1_2, b1_3, b1_4, b1_5, b1_6, b1_7, g1_0, g1_1, g1_2, g1_3, g1_4, g1_5, g1_6, g1_7, -⟩ := hT.1.2.1.all8
     obtain ⟨b2_0, b2_1, b2_2, b2_3, b2_4, b2_5, b2_6, b2_7, g2_0, g2_1, g2_2, g2_3, g2_4, g2_5, g2_6, g2_7, -⟩ := hT.2.1.2.1.all8
     have hp1 := hT.1.1
     have hp2 := hT.2.1.1
     have hne := hT.2.2
     have hne2 := hT.2.2.symm
     refine wpAnyH_ready (rs := [6]) (by kernel_rfl) (by simp) ?_
     refine AllReadyH.cons (o := ⟨none, Op.store 151 (Operand.tmp 5) (Operand.tmp 8), 0, _, _, none⟩) rfl (fun K hK => ?_) AllReadyH.nil
     go_simp
     go_wp2_with fail
     refine hK.out _ _ ?_ (fun hHeld => ?_)
     ·refine HC.out _ ?_; (repeat (first | with_reducible assumption | with_reducible exact Since.refl _ | with_reducible refine Since.alloc ?_ _ | with_reducible refine Since.drew ?_ | with_reducible refine since_set ?_ ?_ _ _))
     clear hK K
     try simp only [Act.put, List.setIfInBounds_toArray, List.set_cons_zero, List.set_cons_succ]
     refine wpAnyH_ready (rs := [7]) (by kernel_rfl) (by simp) ?_
     refine AllReadyH.cons (o := ⟨none, Op.store 151 (Operand.tmp 6) (Operand.tmp 10), 0, _, _, none⟩) rfl (fun K hK => ?_) AllReadyH.nil
     go_simp
     go_wp2_with fail
     refine hK.out _ _ ?_ (fun hHeld => ?_)
     ·refine HC.out _ ?_; (repeat (first | with_reducible assumption | with_reducible exact Since.refl _ | with_reducible refine Since.alloc ?_ _ | with_reducible refine Since.drew ?_ | with_reducible refine since_set ?_ ?_ _ _))
     clear hK K
     try simp only [Act.put, List.setIfInBounds_toArray, List.set_cons_zero, List.set_cons_succ]
     refine wpAnyH_done (by kernel_rfl) ?_ _
     refine NoPanic.normal ?_
     go_wp2_with fail
     go_meet
     exact TwoBox.put8 (z := .int .i64 0) hT
    ·go_simp
     try go_wp2_with fail
     refine hK.out _ _ ?_ (fun hHeld => ?_)
     ·refine HC.out _ ?_; (repeat (first | with_reducible assumption | with_reducible exact Since.refl _ | with_reducible refine Since.alloc ?_ _ | with_reducible refine Since.drew ?_ | with_reducible refine since_set ?_ ?_ _ _))
     clear hK K
     try simp only [Act.put, List.setIfInBounds_toArray, List.set_cons_zero, List.set_cons_succ]
     obtain ⟨v21, hv21⟩ : ∃ v, v = World.alloc v18 (.cells #[.int .i64 0, .int .i64 0, .int .i64 0, .int .i64 0, .int .i64 0, .int .i64 0, .int .i64 0, .int .i64 0] 151) := ⟨_, rfl⟩
     obtain ⟨u21, hu21⟩ : ∃ v, v = World.alloc (World.drew v18) (.cells #[.int .i64 0, .int .i64 0, .int .i64 0, .int .i64 0, .int .i64 0, .int .i64 0, .int .i64 0, .int .i64 0] 151) := ⟨_, rfl⟩
     have hT0 : TwoBox W1 [.int .i64 0, .int .i64 0, .int .i64 0, .int .i64 0, .int .i64 0, .int .i64 0, .int .i64 0, .int .i64 0] (World.heap W1).size (World.heap v18).size v21 := by rw [hv21]; exact TwoBox.madeQ hN0 _
     have hU0 : TwoBox W1 [.int .i64 0, .int .i64 0, .int .i64 0, .int .i64 0, .int .i64 0, .int .i64 0, .int .i64 0, .int .i64 0] (World.heap W1).size (World.heap v18).size u21 := by rw [hu21]; exact TwoBox.madeQ (NewBox.drew hN0) _
     have hs21 : Since W1 v21 := hT0.1.2.2
     have hq21 : Since W1 u21 := hU0.1.2.2
     first | (rw [← hv21]; generalize v21 = y21 at *; have hsy21 := hs21; clear hu21 hU0 hq21 hs21 hv21) | (rw [← hu21]; clear hT0; have hT0 := hU0; generalize u21 = y21 at *; have hsy21 := hq21; clear hv21 hU0 hq21 hu21)
     clear hN0
     refine wpAnyH_ready (rs := [3]) (by kernel_rfl) (by simp) ?_
     refine AllReadyH.cons (o := ⟨some 10, Op.call { callee := Callee.value (Operand.func 141), args := #[Operand.tmp 9], argTypes := #[112] }, 151, _, _, none⟩) rfl (fun K hK => ?_) AllReadyH.nil
     go_simp
     go_at_call 141
     refine (KN.out _ _ _ _ _ _ _ _ _).mono ?_
     rintro e v22 ⟨rfl, hr⟩
     have hs22 : Since W1 v22 := by (with_reducible refine Since.step ?_ hr); (repeat (first | with_reducible assumption | with_reducible exact Since.refl _ | with_reducible refine Since.alloc ?_ _ | with_reducible refine Since.drew ?_ | with_reducible refine since_set ?_ ?_ _ _))
     first | have hT0 := hT0.step hr | have hT0 := (TwoBox.drew hT0).step hr
     clear hr
     try go_wp2_with fail
     refine hK.out _ _ ?_ (fun hHeld => ?_)
     ·refine HC.out _ ?_; (repeat (first | with_reducible assumption | with_reducible exact Since.refl _ | with_reducible refine Since.alloc ?_ _ | with_reducible refine Since.drew ?_ | with_reducible refine since_set ?_ ?_ _ _))
     clear hK K
     try simp only [Act.put, List.setIfInBounds_toArray, List.set_cons_zero, List.set_cons_succ]
     have hT := hT0
     obtain ⟨b1_0, b1_1, b1_2, b1_3, b1_4, b1_5, b1_6, b1_7, g1_0, g1_1, g1_2, g1_3, g1_4, g1_5, g1_6, g1_7, -⟩ := hT.1.2.1.all8
     obtain ⟨b2_0, b2_1, b2_2, b2_3, b2_4, b2_5, b2_6, b2_7, g2_0, g2_1, g2_2, g2_3, g2_4, g2_5, g2_6, g2_7, -⟩ := hT.2.1.2.1.all8
     have hp1 := hT.1.1
     have hp2 := hT.2.1.1
     have hne := hT.2.2
     have hne2 := hT.2.2.symm
     refine wpAnyH_ready (rs := [6]) (by kernel_rfl) (by simp) ?_
     refine AllReadyH.cons (o := ⟨none, Op.store 151 (Operand.tmp 5) (Operand.tmp 8), 0, _, _, none⟩) rfl (fun K hK => ?_) AllReadyH.nil
     go_simp
     go_wp2_with fail
     refine hK.out _ _ ?_ (fun hHeld => ?_)
     ·refine HC.out _ ?_; (repeat (first | with_reducible assumption | with_reducible exact Since.refl _ | with_reducible refine Since.alloc ?_ _ | with_reducible refine Since.drew ?_ | with_reducible refine since_set ?_ ?_ _ _))
     clear hK K
     try simp only [Act.put, List.setIfInBounds_toArray, List.set_cons_zero, List.set_cons_succ]
     refine wpAnyH_ready (rs := [7]) (by kernel_rfl) (by simp) ?_
     refine AllReadyH.cons (o := ⟨none, Op.store 151 (Operand.tmp 6) (Operand.tmp 10), 0, _, _, none⟩) rfl (fun K hK => ?_) AllReadyH.nil
     go_simp
     go_wp2_with fail
     refine hK.out _ _ ?_ (fun hHeld => ?_)
     ·refine HC.out _ ?_; (repeat (first | with_reducible assumption | with_reducible exact Since.refl _ | with_reducible refine Since.alloc ?_ _ | with_reducible refine Since.drew ?_ | with_reducible refine since_set ?_ ?_ _ _))
     clear hK K
     try simp only [Act.put, List.setIfInBounds_toArray, List.set_cons_zero, List.set_cons_succ]
     refine wpAnyH_done (by kernel_rfl) ?_ _
     refine NoPanic.normal ?_
     go_wp2_with fail
     go_meet
     exact TwoBox.put8 (z := .int .i64 0) hT
   ·go_simp
    try go_wp2_with fail
    refine hK.out _ _ ?_ (fun hHeld => ?_)
    ·refine HC.out _ ?_; (repeat (first | with_reducible assumption | with_reducible exact Since.refl _ | with_reducible refine Since.alloc ?_ _ | with_reducible refine Since.drew ?_ | with_reducible refine since_set ?_ ?_ _ _))
    clear hK K
    try simp only [Act.put, List.setIfInBounds_toArray, List.set_cons_zero, List.set_cons_succ]
    obtain ⟨v23, hv23⟩ : ∃ v, v = World.alloc y17 (.cells #[.int .i64 0, .int .i64 0, .int .i64 0, .int .i64 0, .int .i64 0, .int .i64 0, .int .i64 0, .int .i64 0] 151) := ⟨_, rfl⟩
    obtain ⟨u23, hu23⟩ : ∃ v, v = World.alloc (World.drew y17) (.cells #[.int .i64 0, .int .i64 0, .int .i64 0, .int .i64 0, .int .i64 0, .int .i64 0, .int .i64 0, .int .i64 0] 151) := ⟨_, rfl⟩
    have hT0 : TwoBox W1 [.int .i64 0, .int .i64 0, .int .i64 0, .int .i64 0, .int .i64 0, .int .i64 0, .int .i64 0, .int .i64 0] (World.heap W1).size (World.heap y17).size v23 := by rw [hv23]; exact TwoBox.madeQ hN0 _
    have hU0 : TwoBox W1 [.int .i64 0, .int .i64 0, .int .i64 0, .int .i64 0, .int .i64 0, .int .i64 0, .int .i64 0, .int .i64 0] (World.heap W1).size (World.heap y17).size u23 := by rw [hu23]; exact TwoBox.madeQ (NewBox.drew hN0) _
    have hs23 : Since W1 v23 := hT0.1.2.2
    have hq23 : Since W1 u23 := hU0.1.2.2
    first | (rw [← hv23]; generalize v23 = y23 at *; have hsy23 := hs23; clear hu23 hU0 hq23 hs23 hv23) | (rw [← hu23]; clear hT0; have hT0 := hU0; generalize u23 = y23 at *; have hsy23 := hq23; clear hv23 hU0 hq23 hu23)
    clear hN0
    refine wpAnyH_ready (rs := [1]) (by kernel_rfl) (by simp) ?_
    refine AllReadyH.cons (o := ⟨some 8, Op.call { callee := Callee.value (Operand.func 141), args := #[Operand.tmp 7], argTypes := #[112] }, 151, _, _, none⟩) rfl (fun K hK => ?_) AllReadyH.nil
    go_simp
    go_at_call 141
    refine (KN.out _ _ _ _ _ _ _ _ _).mono ?_
    rintro e v24 ⟨rfl, hr⟩
    have hs24 : Since W1 v24 := by (with_reducible refine Since.step ?_ hr); (repeat (first | with_reducible assumption | with_reducible exact Since.refl _ | with_reducible refine Since.alloc ?_ _ | with_reducible refine Since.drew ?_ | with_reducible refine since_set ?_ ?_ _ _))
    first | have hT0 := hT0.step hr | have hT0 := (TwoBox.drew hT0).step hr
    clear hr
    try go_wp2_with fail
    refine hK.out _ _ ?_ (fun hHeld => ?_)
    ·refine HC.out _ ?_; (repeat (first | with_reducible assumption | with_reducible exact Since.refl _ | with_reducible refine Since.alloc ?_ _ | with_reducible refine Since.drew ?_ | with_reducible refine since_set ?_ ?_ _ _))
    clear hK K
    try simp only [Act.put, List.setIfInBounds_toArray, List.set_cons_zero, List.set_cons_succ]
    refine wpAnyH_ready (rs := [3]) (by kernel_rfl) (by simp) ?_
    refine AllReadyH.cons (o := ⟨some 10, Op.call { callee := Callee.value (Operand.func 141), args := #[Operand.tmp 9], argTypes := #[112] }, 151, _, _, none⟩) rfl (fun K hK => ?_) AllReadyH.nil
    go_simp
    go_at_call 141
    refine (KN.out _ _ _ _ _ _ _ _ _).mono ?_
    rintro e v25 ⟨rfl, hr⟩
    have hs25 : Since W1 v25 := by (with_reducible refine Since.step ?_ hr); (repeat (first | with_reducible assumption | with_reducible exact Since.refl _ | with_reducible refine Since.alloc ?_ _ | with_reducible refine Since.drew ?_ | with_reducible refine since_set ?_ ?_ _ _))
    first | have hT0 := hT0.step hr | have hT0 := (TwoBox.drew hT0).step hr
    clear hr
    try go_wp2_with fail
    refine hK.out _ _ ?_ (fun hHeld => ?_)
    ·refine HC.out _ ?_; (repeat (first | with_reducible assumption | with_reducible exact Since.refl _ | with_reducible refine Since.alloc ?_ _ | with_reducible refine Since.drew ?_ | with_reducible refine since_set ?_ ?_ _ _))
    clear hK K
    try simp only [Act.put, List.setIfInBounds_toArray, List.set_cons_zero, List.set_cons_succ]
    have hT := hT0
    obtain ⟨b1_0, b1_1, b1_2, b1_3, b1_4, b1_5, b1_6, b1_7, g1_0, g1_1, g1_2, g1_3, g1_4, g1_5, g1_6, g1_7, -⟩ := hT.1.2.1.all8
    obtain ⟨b2_0, b2_1, b2_2, b2_3, b2_4, b2_5, b2_6, b2_7, g2_0, g2_1, g2_2, g2_3, g2_4, g2_5, g2_6, g2_7, -⟩ := hT.2.1.2.1.all8
    have hp1 := hT.1.1
    have hp2 := hT.2.1.1
    have hne := hT.2.2
    have hne2 := hT.2.2.symm
    refine wpAnyH_ready (rs := [6]) (by kernel_rfl) (by simp) ?_
    refine AllReadyH.cons (o := ⟨none, Op.store 151 (Operand.tmp 5) (Operand.tmp 8), 0, _, _, none⟩) rfl (fun K hK => ?_) AllReadyH.nil
    go_simp
    go_wp2_with fail
    refine hK.out _ _ ?_ (fun hHeld => ?_)
    ·refine HC.out _ ?_; (repeat (first | with_reducible assumption | with_reducible exact Since.refl _ | with_reducible refine Since.alloc ?_ _ | with_reducible refine Since.drew ?_ | with_reducible refine since_set ?_ ?_ _ _))
    clear hK K
    try simp only [Act.put, List.setIfInBounds_toArray, List.set_cons_zero, List.set_cons_succ]
    refine wpAnyH_ready (rs := [7]) (by kernel_rfl) (by simp) ?_
    refine AllReadyH.cons (o := ⟨none, Op.store 151 (Operand.tmp 6) (Operand.tmp 10), 0, _, _, none⟩) rfl (fun K hK => ?_) AllReadyH.nil
    go_simp
    go_wp2_with fail
    refine hK.out _ _ ?_ (fun hHeld => ?_)
    ·refine HC.out _ ?_; (repeat (first | with_reducible assumption | with_reducible exact Since.refl _ | with_reducible refine Since.alloc ?_ _ | with_reducible refine Since.drew ?_ | with_reducible refine since_set ?_ ?_ _ _))
    clear hK K
    try simp only [Act.put, List.setIfInBounds_toArray, List.set_cons_zero, List.set_cons_succ]
    refine wpAnyH_done (by kernel_rfl) ?_ _
    refine NoPanic.normal ?_
    go_wp2_with fail
    go_meet
    exact TwoBox.put8 (z := .int .i64 0) hT
  ·go_simp
   try go_wp2_with fail
   refine hK.out _ _ ?_ (fun hHeld => ?_)
   ·refine HC.out _ ?_; (repeat (first | with_reducible assumption | with_reducible exact Since.refl _ | with_reducible refine Since.alloc ?_ _ | with_reducible refine Since.drew ?_ | with_reducible refine since_set ?_ ?_ _ _))
   clear hK K
   try simp only [Act.put, List.setIfInBounds_toArray, List.set_cons_zero, List.set_cons_succ]
   obtain ⟨v26, hv26⟩ : ∃ v, v = World.alloc W1 (.cells #[.int .i64 0, .int .i64 0, .int .i64 0, .int .i64 0, .int .i64 0, .int .i64 0, .int .i64 0, .int .i64 0] 151) := ⟨_, rfl⟩
   obtain ⟨u26, hu26⟩ : ∃ v, v = World.alloc (World.drew W1) (.cells #[.int .i64 0, .int .i64 0, .int .i64 0, .int .i64 0, .int .i64 0, .int .i64 0, .int .i64 0, .int .i64 0] 151) := ⟨_, rfl⟩
   have hN0 : NewBox W1 [.int .i64 0, .int .i64 0, .int .i64 0, .int .i64 0, .int .i64 0, .int .i64 0, .int .i64 0, .int .i64 0] (World.heap W1).size v26 := by rw [hv26]; exact NewBox.made (Since.refl W1) _ _
   have hM0 : NewBox W1 [.int .i64 0, .int .i64 0, .int .i64 0, .int .i64 0, .int .i64 0, .int .i64 0, .int .i64 0, .int .i64 0] (World.heap W1).size u26 := by rw [hu26]; exact NewBox.made (Since.drew (Since.refl W1)) _ _
   have hs26 : Since W1 v26 := hN0.2.2
   have hq26 : Since W1 u26 := hM0.2.2
   first | (rw [← hv26]; generalize v26 = y26 at *; have hsy26 := hs26; clear hu26 hM0 hq26 hs26 hv26) | (rw [← hu26]; clear hN0; have hN0 := hM0; generalize u26 = y26 at *; have hsy26 := hq26; clear hv26 hM0 hq26 hu26)
   refine wpAnyH_ready (rs := [1, 4]) (by kernel_rfl) (by simp) ?_
   refine AllReadyH.cons (o := ⟨some 8, Op.call { callee := Callee.value (Operand.func 141), args := #[Operand.tmp 7], argTypes := #[112] }, 151, _, _, none⟩) rfl (fun K hK => ?_) (AllReadyH.cons (o := ⟨some 5, Op.alloc 151, 0, _, _, none⟩) rfl (fun K hK => ?_) AllReadyH.nil)
   ·go_simp
    go_at_call 141
    refine (KN.out _ _ _ _ _ _ _ _ _).mono ?_
    rintro e v27 ⟨rfl, hr⟩
    have hs27 : Since W1 v27 := by (with_reducible refine Since.step ?_ hr); (repeat (first | with_reducible assumption | with_reducible exact Since.refl _ | with_reducible refine Since.alloc ?_ _ | with_reducible refine Since.drew ?_ | with_reducible refine since_set ?_ ?_ _ _))
    first | have hN0 := hN0.step hr | have hN0 := (NewBox.drew hN0).step hr
    clear hr
    try go_wp2_with fail
    refine hK.out _ _ ?_ (fun hHeld => ?_)
    ·refine HC.out _ ?_; (repeat (first | with_reducible assumption | with_reducible exact Since.refl _ | with_reducible refine Since.alloc ?_ _ | with_reducible refine Since.drew ?_ | with_reducible refine since_set ?_ ?_ _ _))
    clear hK K
    try simp only [Act.put, List.setIfInBounds_toArray, List.set_cons_zero, List.set_cons_succ]
    refine wpAnyH_ready (rs := [3, 4]) (by kernel_rfl) (by simp) ?_
    refine AllReadyH.cons (o := ⟨some 10, Op.call { callee := Callee.value (Operand.func 141), args := #[Operand.tmp 9], argTypes := #[112] }, 151, _, _, none⟩) rfl (fun K hK => ?_) (AllReadyH.cons (o := ⟨some 5, Op.alloc 151, 0, _, _, none⟩) rfl (fun K hK => ?_) AllReadyH.nil)
    ·go_simp
     go_at_call 141
     refine (KN.out _ _ _ _ _ _ _ _ _).mono ?_
     rintro e v28 ⟨rfl, hr⟩
     have hs28 : Since W1 v28 := by (with_reducible refine Since.step ?_ hr); (repeat (first | with_reducible assumption | with_reducible exact Since.refl _ | with_reducible refine Since.alloc ?_ _ | with_reducible refine Since.drew ?_ | with_reducible refine since_set ?_ ?_ _ _))
     first | have hN0 := hN0.step hr | have hN0 := (NewBox.drew hN0).step hr
     clear hr
     try go_wp2_with fail
     refine hK.out _ _ ?_ (fun hHeld => ?_)
     ·refine HC.out _ ?_; (repeat (first | with_reducible assumption | with_reducible exact Since.refl _ | with_reducible refine Since.alloc ?_ _ | with_reducible refine Since.drew ?_ | with_reducible refine since_set ?_ ?_ _ _))
     clear hK K
     try simp only [Act.put, List.setIfInBounds_toArray, List.set_cons_zero, List.set_cons_succ]
     refine wpAnyH_ready (rs := [4]) (by kernel_rfl) (by simp) ?_
     refine AllReadyH.cons (o := ⟨some 5, Op.alloc 151, 0, _, _, none⟩) rfl (fun K hK => ?_) AllReadyH.nil
     go_simp
     try go_wp2_with fail
     refine hK.out _ _ ?_ (fun hHeld => ?_)
     ·refine HC.out _ ?_; (repeat (first | with_reducible assumption | with_reducible exact Since.refl _ | with_reducible refine Since.alloc ?_ _ | with_reducible refine Since.drew ?_ | with_reducible refine since_set ?_ ?_ _ _))
     clear hK K
     try simp only [Act.put, List.setIfInBounds_toArray, List.set_cons_zero, List.set_cons_succ]
     obtain ⟨v29, hv29⟩ : ∃ v, v = World.alloc v28 (.cells #[.int .i64 0, .int .i64 0, .int .i64 0, .int .i64 0, .int .i64 0, .int .i64 0, .int .i64 0, .int .i64 0] 151) := ⟨_, rfl⟩
     obtain ⟨u29, hu29⟩ : ∃ v, v = World.alloc (World.drew v28) (.cells #[.int .i64 0, .int .i64 0, .int .i64 0, .int .i64 0, .int .i64 0, .int .i64 0, .int .i64 0, .int .i64 0] 151) := ⟨_, rfl⟩
     have hT0 : TwoBox W1 [.int .i64 0, .int .i64 0, .int .i64 0, .int .i64 0, .int .i64 0, .int .i64 0, .int .i64 0, .int .i64 0] (World.heap W1).size (World.heap v28).size v29 := by rw [hv29]; exact TwoBox.madeQ hN0 _
     have hU0 : TwoBox W1 [.int .i64 0, .int .i64 0, .int .i64 0, .int .i64 0, .int .i64 0, .int .i64 0, .int .i64 0, .int .i64 0] (World.heap W1).size (World.heap v28).size u29 := by rw [hu29]; exact TwoBox.madeQ (NewBox.drew hN0) _
     have hs29 : Since W1 v29 := hT0.1.2.2
     have hq29 : Since W1 u29 := hU0.1.2.2
     first | (rw [← hv29]; generalize v29 = y29 at *; have hsy29 := hs29; clear hu29 hU0 hq29 hs29 hv29) | (rw [← hu29]; clear hT0; have hT0 := hU0; generalize u29 = y29 at *; have hsy29 := hq29; clear hv29 hU0 hq29 hu29)
     clear hN0
     have hT := hT0.symm
     obtain ⟨b1_0, b1_1, b1_2, b1_3, b1_4, b1_5, b1_6, b1_7, g1_0, g1_1, g1_2, g1_3, g1_4, g1_5, g1_6, g1_7, -⟩ := hT.1.2.1.all8
     obtain ⟨b2_0, b2_1, b2_2, b2_3, b2_4, b2_5, b2_6, b2_7, g2_0, g2_1, g2_2, g2_3, g2_4, g2_5, g2_6, g2_7, -⟩ := hT.2.1.2.1.all8
     have hp1 := hT.1.1
     have hp2 := hT.2.1.1
     have hne := hT.2.2
     have hne2 := hT.2.2.symm
     refine wpAnyH_ready (rs := [6]) (by kernel_rfl) (by simp) ?_
     refine AllReadyH.cons (o := ⟨none, Op.store 151 (Operand.tmp 5) (Operand.tmp 8), 0, _, _, none⟩) rfl (fun K hK => ?_) AllReadyH.nil
     go_simp
     go_wp2_with fail
     refine hK.out _ _ ?_ (fun hHeld => ?_)
     ·refine HC.out _ ?_; (repeat (first | with_reducible assumption | with_reducible exact Since.refl _ | with_reducible refine Since.alloc ?_ _ | with_reducible refine Since.drew ?_ | with_reducible refine since_set ?_ ?_ _ _))
     clear hK K
     try simp only [Act.put, List.setIfInBounds_toArray, List.set_cons_zero, List.set_cons_succ]
     refine wpAnyH_ready (rs := [7]) (by kernel_rfl) (by simp) ?_
     refine AllReadyH.cons (o := ⟨none, Op.store 151 (Operand.tmp 6) (Operand.tmp 10), 0, _, _, none⟩) rfl (fun K hK => ?_) AllReadyH.nil
     go_simp
     go_wp2_with fail
     refine hK.out _ _ ?_ (fun hHeld => ?_)
     ·refine HC.out _ ?_; (repeat (first | with_reducible assumption | with_reducible exact Since.refl _ | with_reducible refine Since.alloc ?_ _ | with_reducible refine Since.drew ?_ | with_reducible refine since_set ?_ ?_ _ _))
     clear hK K
     try simp only [Act.put, List.setIfInBounds_toArray, List.set_cons_zero, List.set_cons_succ]
     refine wpAnyH_done (by kernel_rfl) ?_ _
     refine NoPanic.normal ?_
     go_wp2_with fail
     go_meet
     exact TwoBox.put8 (z := .int .i64 0) hT
    ·go_simp
     try go_wp2_with fail
     refine hK.out _ _ ?_ (fun hHeld => ?_)
     ·refine HC.out _ ?_; (repeat (first | with_reducible assumption | with_reducible exact Since.refl _ | with_reducible refine Since.alloc ?_ _ | with_reducible refine Since.drew ?_ | with_reducible refine since_set ?_ ?_ _ _))
     clear hK K
     try simp only [Act.put, List.setIfInBounds_toArray, List.set_cons_zero, List.set_cons_succ]
     obtain ⟨v30, hv30⟩ : ∃ v, v = World.alloc v27 (.cells #[.int .i64 0, .int .i64 0, .int .i64 0, .int .i64 0, .int .i64 0, .int .i64 0, .int .i64 0, .int .i64 0] 151) := ⟨_, rfl⟩
     obtain ⟨u30, hu30⟩ : ∃ v, v = World.alloc (World.drew v27) (.cells #[.int .i64 0, .int .i64 0, .int .i64 0, .int .i64 0, .int .i64 0, .int .i64 0, .int .i64 0, .int .i64 0] 151) := ⟨_, rfl⟩
     have hT0 : TwoBox W1 [.int .i64 0, .int .i64 0, .int .i64 0, .int .i64 0, .int .i64 0, .int .i64 0, .int .i64 0, .int .i64 0] (World.heap W1).size (World.heap v27).size v30 := by rw [hv30]; exact TwoBox.madeQ hN0 _
     have hU0 : TwoBox W1 [.int .i64 0, .int .i64 0, .int .i64 0, .int .i64 0, .int .i64 0, .int .i64 0, .int .i64 0, .int .i64 0] (World.heap W1).size (World.heap v27).size u30 := by rw [hu30]; exact TwoBox.madeQ (NewBox.drew hN0) _
     have hs30 : Since W1 v30 := hT0.1.2.2
     have hq30 : Since W1 u30 := hU0.1.2.2
     first | (rw [← hv30]; generalize v30 = y30 at *; have hsy30 := hs30; clear hu30 hU0 hq30 hs30 hv30) | (rw [← hu30]; clear hT0; have hT0 := hU0; generalize u30 = y30 at *; have hsy30 := hq30; clear hv30 hU0 hq30 hu30)
     clear hN0
     refine wpAnyH_ready (rs := [3]) (by kernel_rfl) (by simp) ?_
     refine AllReadyH.cons (o := ⟨some 10, Op.call { callee := Callee.value (Operand.func 141), args := #[Operand.tmp 9], argTypes := #[112] }, 151, _, _, none⟩) rfl (fun K hK => ?_) AllReadyH.nil
     go_simp
     go_at_call 141
     refine (KN.out _ _ _ _ _ _ _ _ _).mono ?_
     rintro e v31 ⟨rfl, hr⟩
     have hs31 : Since W1 v31 := by (with_reducible refine Since.step ?_ hr); (repeat (first | with_reducible assumption | with_reducible exact Since.refl _ | with_reducible refine Since.alloc ?_ _ | with_reducible refine Since.drew ?_ | with_reducible refine since_set ?_ ?_ _ _))
     first | have hT0 := hT0.step hr | have hT0 := (TwoBox.drew hT0).step hr
     clear hr
     try go_wp2_with fail
     refine hK.out _ _ ?_ (fun hHeld => ?_)
     ·refine HC.out _ ?_; (repeat (first | with_reducible assumption | with_reducible exact Since.refl _ | with_reducible refine Since.alloc ?_ _ | with_reducible refine Since.drew ?_ | with_reducible refine since_set ?_ ?_ _ _))
     clear hK K
     try simp only [Act.put, List.setIfInBounds_toArray, List.set_cons_zero, List.set_cons_succ]
     have hT := hT0.symm
     obtain ⟨b1_0, b1_1, b1_2, b1_3, b1_4, b1_5, b1_6, b1_7, g1_0, g1_1, g1_2, g1_3, g1_4, g1_5, g1_6, g1_7, -⟩ := hT.1.2.1.all8
     obtain ⟨b2_0, b2_1, b2_2, b2_3, b2_4, b2_5, b2_6, b2_7, g2_0, g2_1, g2_2, g2_3, g2_4, g2_5, g2_6, g2_7, -⟩ := hT.2.1.2.1.all8
     have hp1 := hT.1.1
     have hp2 := hT.2.1.1
     have hne := hT.2.2
     have hne2 := hT.2.2.symm
     refine wpAnyH_ready (rs := [6]) (by kernel_rfl) (by simp) ?_
     refine AllReadyH.cons (o := ⟨none, Op.store 151 (Operand.tmp 5) (Operand.tmp 8), 0, _, _, none⟩) rfl (fun K hK => ?_) AllReadyH.nil
     go_simp
     go_wp2_with fail
     refine hK.out _ _ ?_ (fun hHeld => ?_)
     ·refine HC.out _ ?_; (repeat (first | with_reducible assumption | with_reducible exact Since.refl _ | with_reducible refine Since.alloc ?_ _ | with_reducible refine Since.drew ?_ | with_reducible refine since_set ?_ ?_ _ _))
     clear hK K
     try simp only [Act.put, List.setIfInBounds_toArray, List.set_cons_zero, List.set_cons_succ]
     refine wpAnyH_ready (rs := [7]) (by kernel_rfl) (by simp) ?_
     refine AllReadyH.cons (o := ⟨none, Op.store 151 (Operand.tmp 6) (Operand.tmp 10), 0, _, _, none⟩) rfl (fun K hK => ?_) AllReadyH.nil
     go_simp
     go_wp2_with fail
     refine hK.out _ _ ?_ (fun hHeld => ?_)
     ·refine HC.out _ ?_; (repeat (first | with_reducible assumption | with_reducible exact Since.refl _ | with_reducible refine Since.alloc ?_ _ | with_reducible refine Since.drew ?_ | with_reducible refine since_set ?_ ?_ _ _))
     clear hK K
     try simp only [Act.put, List.setIfInBounds_toArray, List.set_cons_zero, List.set_cons_succ]
     refine wpAnyH_done (by kernel_rfl) ?_ _
     refine NoPanic.normal ?_
     go_wp2_with fail
     go_meet
     exact TwoBox.put8 (z := .int .i64 0) hT
   ·go_simp
    try go_wp2_with fail
    refine hK.out _ _ ?_ (fun hHeld => ?_)
    ·refine HC.out _ ?_; (repeat (first | with_reducible assumption | with_reducible exact Since.refl _ | with_reducible refine Since.alloc ?_ _ | with_reducible refine Since.drew ?_ | with_reducible refine since_set ?_ ?_ _ _))
    clear hK K
    try simp only [Act.put, List.setIfInBounds_toArray, List.set_cons_zero, List.set_cons_succ]
    obtain ⟨v32, hv32⟩ : ∃ v, v = World.alloc y26 (.cells #[.int .i64 0, .int .i64 0, .int .i64 0, .int .i64 0, .int .i64 0, .int .i64 0, .int .i64 0, .int .i64 0] 151) := ⟨_, rfl⟩
    obtain ⟨u32, hu32⟩ : ∃ v, v = World.alloc (World.drew y26) (.cells #[.int .i64 0, .int .i64 0, .int .i64 0, .int .i64 0, .int .i64 0, .int .i64 0, .int .i64 0, .int .i64 0] 151) := ⟨_, rfl⟩
    have hT0 : TwoBox W1 [.int .i64 0, .int .i64 0, .int .i64 0, .int .i64 0, .int .i64 0, .int .i64 0, .int .i64 0, .int .i64 0] (World.heap W1).size (World.heap y26).size v32 := by rw [hv32]; exact TwoBox.madeQ hN0 _
    have hU0 : TwoBox W1 [.int .i64 0, .int .i64 0, .int .i64 0, .int .i64 0, .int .i64 0, .int .i64 0, .int .i64 0, .int .i64 0] (World.heap W1).size (World.heap y26).size u32 := by rw [hu32]; exact TwoBox.madeQ (NewBox.drew hN0) _
    have hs32 : Since W1 v32 := hT0.1.2.2
    have hq32 : Since W1 u32 := hU0.1.2.2
    first | (rw [← hv32]; generalize v32 = y32 at *; have hsy32 := hs32; clear hu32 hU0 hq32 hs32 hv32) | (rw [← hu32]; clear hT0; have hT0 := hU0; generalize u32 = y32 at *; have hsy32 := hq32; clear hv32 hU0 hq32 hu32)
    clear hN0
    refine wpAnyH_ready (rs := [1]) (by kernel_rfl) (by simp) ?_
    refine AllReadyH.cons (o := ⟨some 8, Op.call { callee := Callee.value (Operand.func 141), args := #[Operand.tmp 7], argTypes := #[112] }, 151, _, _, none⟩) rfl (fun K hK => ?_) AllReadyH.nil
    go_simp
    go_at_call 141
    refine (KN.out _ _ _ _ _ _ _ _ _).mono ?_
    rintro e v33 ⟨rfl, hr⟩
    have hs33 : Since W1 v33 := by (with_reducible refine Since.step ?_ hr); (repeat (first | with_reducible assumption | with_reducible exact Since.refl _ | with_reducible refine Since.alloc ?_ _ | with_reducible refine Since.drew ?_ | with_reducible refine since_set ?_ ?_ _ _))
    first | have hT0 := hT0.step hr | have hT0 := (TwoBox.drew hT0).step hr
    clear hr
    try go_wp2_with fail
    refine hK.out _ _ ?_ (fun hHeld => ?_)
    ·refine HC.out _ ?_; (repeat (first | with_reducible assumption | with_reducible exact Since.refl _ | with_reducible refine Since.alloc ?_ _ | with_reducible refine Since.drew ?_ | with_reducible refine since_set ?_ ?_ _ _))
    clear hK K
    try simp only [Act.put, List.setIfInBounds_toArray, List.set_cons_zero, List.set_cons_succ]
    refine wpAnyH_ready (rs := [3]) (by kernel_rfl) (by simp) ?_
    refine AllReadyH.cons (o := ⟨some 10, Op.call { callee := Callee.value (Operand.func 141), args := #[Operand.tmp 9], argTypes := #[112] }, 151, _, _, none⟩) rfl (fun K hK => ?_) AllReadyH.nil
    go_simp
    go_at_call 141
    refine (KN.out _ _ _ _ _ _ _ _ _).mono ?_
    rintro e v34 ⟨rfl, hr⟩
    have hs34 : Since W1 v34 := by (with_reducible refine Since.step ?_ hr); (repeat (first | with_reducible assumption | with_reducible exact Since.refl _ | with_reducible refine Since.alloc ?_ _ | with_reducible refine Since.drew ?_ | with_reducible refine since_set ?_ ?_ _ _))
    first | have hT0 := hT0.step hr | have hT0 := (TwoBox.drew hT0).step hr
    clear hr
    try go_wp2_with fail
    refine hK.out _ _ ?_ (fun hHeld => ?_)
    ·refine HC.out _ ?_; (repeat (first | with_reducible assumption | with_reducible exact Since.refl _ | with_reducible refine Since.alloc ?_ _ | with_reducible refine Since.drew ?_ | with_reducible refine since_set ?_ ?_ _ _))
    clear hK K
    try simp only [Act.put, List.setIfInBounds_toArray, List.set_cons_zero, List.set_cons_succ]
    have hT := hT0.symm
    obtain ⟨b1_0, b1_1, b1_2, b1_3, b1_4, b1_5, b1_6, b1_7, g1_0, g1_1, g1_2, g1_3, g1_4, g1_5, g1_6, g1_7, -⟩ := hT.1.2.1.all8
    obtain ⟨b2_0, b2_1, b2_2, b2_3, b2_4, b2_5, b2_6, b2_7, g2_0, g2_1, g2_2, g2_3, g2_4, g2_5, g2_6, g2_7, -⟩ := hT.2.1.2.1.all8
    have hp1 := hT.1.1
    have hp2 := hT.2.1.1
    have hne := hT.2.2
    have hne2 := hT.2.2.symm
    refine wpAnyH_ready (rs := [6]) (by kernel_rfl) (by simp) ?_
    refine AllReadyH.cons (o := ⟨none, Op.store 151 (Operand.tmp 5) (Operand.tmp 8), 0, _, _, none⟩) rfl (fun K hK => ?_) AllReadyH.nil
    go_simp
    go_wp2_with fail
    refine hK.out _ _ ?_ (fun hHeld => ?_)
    ·refine HC.out _ ?_; (repeat (first | with_reducible assumption | with_reducible exact Since.refl _ | with_reducible refine Since.alloc ?_ _ | with_reducible refine Since.drew ?_ | with_reducible refine since_set ?_ ?_ _ _))
    clear hK K
    try simp only [Act.put, List.setIfInBounds_toArray, List.set_cons_zero, List.set_cons_succ]
    refine wpAnyH_ready (rs := [7]) (by kernel_rfl) (by simp) ?_
    refine AllReadyH.cons (o := ⟨none, Op.store 151 (Operand.tmp 6) (Operand.tmp 10), 0, _, _, none⟩) rfl (fun K hK => ?_) AllReadyH.nil
    go_simp
    go_wp2_with fail
    refine hK.out _ _ ?_ (fun hHeld => ?_)
    ·refine HC.out _ ?_; (repeat (first | with_reducible assumption | with_reducible exact Since.refl _ | with_reducible refine Since.alloc ?_ _ | with_reducible refine Since.drew ?_ | with_reducible refine since_set ?_ ?_ _ _))
    clear hK K
    try simp only [Act.put, List.setIfInBounds_toArray, List.set_cons_zero, List.set_cons_succ]
    refine wpAnyH_done (by kernel_rfl) ?_ _
    refine NoPanic.normal ?_
    go_wp2_with fail
    go_meet
    exact TwoBox.put8 (z := .int .i64 0) hT
 case rest =>
  obtain ⟨P, Q, rfl, rfl, hP, hQ, hS⟩ := hcut
  rename World => w2
  have HB2 := Lib.hid (Below.trans HB1.out (Below.mono hS (since_size HB1.out)))
  have hSd : Since w2 w2.drew := Since.drew (Since.refl _)
  have KQ := Lib.hid (KL.out P Q w2.drew (hP.keep (Below.toBelow hSd)) (hQ.keep (Below.toBelow hSd)))
  obtain ⟨p0, p1, p2, p3, p4, p5, p6, p7, -⟩ := hP.open8
  obtain ⟨q0, q1, q2, q3, q4, q5, q6, q7, -⟩ := hQ.open8
  clear x0 x1 x2 x3 x4 x5 x6 x7 y0 y1 y2 y3 y4 y5 y6 y7 hS
  go_upto_region 2 with (fail)
  go_region_held3 (fun w' => Since w2 w')
   (first | exact hSd | exact hB2)
   ((go_at_call 142; refine (KQ.out).mono ?_; rintro e w' ⟨rfl, hr⟩; have hB2 : Since w2 w' := Since.step hSd hr))
  go_wp2
  go_ret
  exact ⟨rfl, Below.trans HB2.out (Below.mono hB2 (since_size HB2.out))⟩
theorem fcmp_any (f g : Fo) (hf : f.size ≤ 1000000) (hg : g.size ≤ 1000000) (hfw : f.wf) (hgw : g.wf) (c d c' d' : Value) (W : World) (hF : FAt W.heap.size W f c d) (hG : FAt W.heap.size W g c' d') :
  Calls Tryz.prog 42 #[.agg #[.int .i64 f.op, .int .i64 f.n, c, d], .agg #[.int .i64 g.op, .int .i64 g.n, c', d']] W fun e w' => e = .returned (.int .i64 (fcmp f g)) ∧ Below W.heap.size W w' :=
 cmpF_all Iv.cmp (Lib.hid civ_any) f.size hf f g (Nat.le_refl _) hg hfw hgw c d c' d' W hF hG
end Go.Proofs.YtgnloodmbgdgdaaGreat.W
