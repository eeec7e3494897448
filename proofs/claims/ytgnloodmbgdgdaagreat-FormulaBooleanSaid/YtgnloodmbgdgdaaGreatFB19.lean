import Derived.Test.YtgnloodmbgdgdaaGreatFB16
import Derived.Test.YtgnloodmbgdgdaaGreatFB18
namespace Go.Proofs.YtgnloodmbgdgdaaGreat
open Go.RowKit Go.Shelf
theorem OF.made {S : Nat → Prop} {B N : Nat} {X : World} {vi : Value} {is : List Iv} (hbox : BoxL N [.int .i64 0, .int .i64 0, .slice none 0 0, .slice none 0 0] X) (hB : B ≤ N) (oi : ROwn RIv 112 B X vi is) (ni : vi.ownBlock ≠ some N) (op n : Int) :
  OF S B N (put4 X N (.int .i64 op) (.int .i64 n) vi (.slice none 0 0)) op n vi (.slice none 0 0) is [] [] := by
 have hk := fun g (hg : g ≠ N) (hl : g < X.heap.size) => (put4_keep (S := fun k => k ≠ N) X N (.int .i64 op) (.int .i64 n) vi (.slice none 0 0) (fun _ h => h)).2 g hg hl
 exact ⟨(((hbox.set1 0 _ (by simp)).set1 1 _ (by simp)).set1 2 _ (by simp)).set1 3 _ (by simp), hB, oi.keepS fun g e hl => hk g (fun e2 => ni (e2 ▸ e)) hl, ROwn.nil _ _ _ _, LieF.nil _ _, ni, by simp [Value.ownBlock], fun g _ => by simp [Value.ownBlock]⟩
theorem OF.kid0 {S S1 : Nat → Prop} {B N : Nat} {w w' : World} {op n : Int} {vi vk : Value} {is : List Iv} {rs : List Fr} {ks : List Fo} (h : OF S B N w op n vi vk is rs ks) (hS : Since w w') (hSB : ∀ k, B ≤ k → S k) (hS1 : ∀ k, S1 k → S k ∧ k < B) {t : Fo} {r : Fr} (hT : FSr (fun k => (S1 k ∨ w.heap.size ≤ k) ∧ k < w'.heap.size) w' t r) (o : Obj) :
  OF S B N (w'.alloc o) op n vi vk is rs ks ∧ LieF (FreeF S N vi vk) (w'.alloc o) (rs ++ [r]) (ks ++ [t]) := by
 have h1 : OF S B N (w'.alloc o) op n vi vk is rs ks := (h.frame hS).frame (Since.alloc (since_r _) o)
 have hbx := h.box.1
 have hbn := h.hB
 refine ⟨h1, h1.lie.snoc ?_⟩
 have h2 := h.part (w' := w') (fun k _ hk => by
  rcases hk.1 with hk | hk
  ·exact ⟨(hS1 k hk).1, .inl (hS1 k hk).2⟩
  ·exact ⟨hSB k (by omega), .inr hk⟩) hT
 exact FSr.keep (S' := FreeF S N vi vk) h2 ⟨by simp, fun b _ hl => Below.heap_alloc _ _ _ hl⟩ fun _ _ h => h.1
def CutF (S0 : Nat → Prop) (W W2 : World) (op n : Int) (is : List Iv) (s : Value) (wx : World) : Prop :=
 ∃ M b1 m1 d1, s = .pointer (some ⟨M, 0, none⟩) ∧ Hid (OF (fun k => (S0 k ∧ k < W.heap.size) ∨ W2.heap.size ≤ k) W2.heap.size M wx op n (.slice b1 m1 d1) (.slice none 0 0) is [] []) ∧ Hid (Since W2 wx)
theorem kid_at {S : Nat → Prop} {W : World} {a : Option Addr} {n cap : Nat} {ks : List Fo} (h : FSl S W (.slice a n cap) ks) {j : Nat} (hj : j < n) :
  ∃ (g : Nat) (u : Fo) (ua : Option Addr) (um ud : Nat) (va : Option Addr) (vm vd : Nat), a = some ⟨g, 0, none⟩ ∧ S g ∧ g < W.heap.size ∧ n ≤ cap ∧ ks[j]? = some u ∧ W.cell? ⟨g, j * 4, none⟩ = some (.int .i64 u.op) ∧ W.cell? ⟨g, j * 4 + 1, none⟩ = some (.int .i64 u.n) ∧ W.cell? ⟨g, j * 4 + 2, none⟩ = some (.slice ua um ud) ∧ W.cell? ⟨g, j * 4 + 3, none⟩ = some (.slice va vm vd) ∧ FS S W u (.slice ua um ud) (.slice va vm vd) := by
 obtain ⟨b, c, he⟩ := FSl.shape h
 cases he
 rcases h with ⟨he, rfl⟩ | ⟨g, cap', hg, hgs, he, hl, hp⟩
 ·simp at hj
 ·cases he
  obtain ⟨u, hu⟩ : ∃ u, ks[j]? = some u := ⟨_, List.getElem?_eq_getElem hj⟩
  obtain ⟨c, d, q0, q1, q2, q3, hF⟩ := FL.get ks hp j u hu
  rw [Nat.zero_add] at q0 q1 q2 q3
  obtain ⟨r, rfl, rfl, -, -, -⟩ := hF.shape
  exact ⟨g, u, _, _, _, _, _, _, rfl, hg, hgs, hl, hu, q0, q1, q2, q3, hF⟩
set_option maxHeartbeats 16000000 in
set_option maxRecDepth 100000 in
theorem rebK_any (b4 b3 : Nat) (g : Fo → Fo) (S0 : Nat → Prop) (f : Fo) (hf : f.size ≤ 1000000) (hil : f.is.length ≤ 1000000) (op' : Int) (c d : Value) (W : World) (hS0 : ∀ k, S0 k → k < W.heap.size) (hT : FS S0 W f c d)
  (HK : ∀ u ∈ f.ks, ∀ (c d : Value) (V : World), Since W V → FS (fun k => S0 k ∧ k < W.heap.size) V u c d → Calls Tryz.prog 118 #[.agg #[.int .i64 u.op, .int .i64 u.n, c, d], .pointer (some ⟨b4, 0, none⟩), .pointer (some ⟨b3, 0, none⟩)] V (FoOut (fun k => S0 k ∧ k < W.heap.size) (g u) V)) :
  Calls Tryz.prog 119 #[.agg #[.int .i64 f.op, .int .i64 f.n, c, d], .int .i64 op', .func (.func 118) #[] #[.pointer (some ⟨b4, 0, none⟩), .pointer (some ⟨b3, 0, none⟩)]] W (FoOut S0 (.mk op' f.n f.is (f.ks.map g)) W) := by
 have hsz := f.size_eq
 have hkl := Fo.sizes_len f.ks
 obtain ⟨op, nn, is, ks⟩ := f
 simp only [Fo.op, Fo.n, Fo.is, Fo.ks] at *
 obtain ⟨⟨hE2, hL2⟩, hK⟩ := hT.parts
 obtain ⟨a2, c2, rfl⟩ := hE2.shape
 obtain ⟨a3, c3, rfl⟩ := FSl.shape hK
 obtain ⟨W2, hW2⟩ : ∃ W2, W2 = (W.alloc (.cells #[.int .i64 op, .int .i64 nn, .slice a2 is.length c2, .slice a3 ks.length c3] 29)).alloc (.cells #[.int .i64 0, .int .i64 0, .slice none 0 0, .slice none 0 0] 29) := ⟨_, rfl⟩
 have hB2 : Below W.heap.size W W2 := by rw [hW2]; exact ((Below.refl _ _).alloc (Nat.le_refl _) _).alloc (by simp) _
 have hX2 : BoxL W.heap.size [.int .i64 op, .int .i64 nn, .slice a2 is.length c2, .slice a3 ks.length c3] W2 := by rw [hW2]; exact (BoxL.made W _ _).under _
 have hR2 : BoxL (W.heap.size + 1) [.int .i64 0, .int .i64 0, .slice none 0 0, .slice none 0 0] W2 := by
  rw [hW2]
  have := BoxL.made (W.alloc (.cells #[.int .i64 op, .int .i64 nn, .slice a2 is.length c2, .slice a3 ks.length c3] 29)) #[.int .i64 0, .int .i64 0, .slice none 0 0, .slice none 0 0] 29
  rwa [World.size_alloc] at this
 have hz2 : W2.heap.size = W.heap.size + 2 := by rw [hW2, World.size_alloc, World.size_alloc]
 have hBs : ∀ w, Since W2 w → Below W.heap.size W w := fun w h => hB2.trans (Below.mono h hB2.size)
 have HBS := Lib.hid hBs
 have KC := Lib.hid fun (w : World) (h : Since W2 w) => cloIv_any (.slice a2 is.length c2) is w ((hE2.low (hL2.low hS0) (hBs w h)).rfl') (by omega)
 have HKD := Lib.hid fun (j : Nat) (hj : j < ks.length) => kid_at hK hj
 have HS0 := Lib.hid hS0
 have HHK := Lib.hid HK
 have HX2 := Lib.hid hX2
 have HR2 := Lib.hid hR2
 have HZ2 := Lib.hid hz2
 have hn6 : ks.length ≤ 1000000 := by omega
 obtain ⟨c0, c1, c2a, c3a, -, -, -, -, hlt⟩ := hX2.all4
 clear hX2 hR2 hB2 hBs hE2 hL2 hK hT HK hS0 hsz hkl hf hil hz2
 generalize hnk : ks.length = n3 at *
 have HNK := Lib.hid hnk
 clear hnk
 generalize is.length = n2 at *
 go_enter Tryz.func119, Tryz.ntmps119
 go_upto_region 1 with (fail)
 rw [← hW2]
 clear hW2
 go_cut [7] (fun s wx => CutF S0 W W2 op' nn is s wx)
 case first =>
  have hs_W2 : Since W2 W2 := since_r _
  refine wp_region_noPanic ?_
  refine wp_region_held_drew (S := fun w' => w'.cell? ⟨W.heap.size, 1, none⟩ = some (.int .i64 nn) ∧ w'.cell? ⟨W.heap.size, 2, none⟩ = some (.slice a2 n2 c2) ∧ Since W2 w') (by kernel_rfl) ⟨c1, c2a, since_d (since_r _)⟩ (fun hHeld => ?_)
  refine wpAnyH_take (i := 0) (oi := ⟨some 10, Op.move (Operand.tmp 1), 3, _, _, none⟩) (v := ?_) rfl (by kernel_rfl) (by kernel_rfl) (by kernel_rfl) (fun _ _ _ h => h) (Or.inl ⟨by rfl, ?_⟩) (by assumption) ?_
  rotate_left 1
  ·(intro w hSw; (try dsimp only at hSw); go_simp; first | done | with_reducible rfl)
  try simp only [Act.put, List.setIfInBounds_toArray, List.set_cons_zero, List.set_cons_succ]
  refine wpAnyH_take (i := 1) (oi := ⟨some 11, Op.fieldAddr 29 (Operand.tmp 3) 1, 0, _, _, none⟩) (v := ?_) rfl (by kernel_rfl) (by kernel_rfl) (by kernel_rfl) (fun _ _ _ h => h) (Or.inl ⟨by rfl, ?_⟩) (by assumption) ?_
  rotate_left 1
  ·(intro w hSw; (try dsimp only at hSw); go_simp; first | done | with_reducible rfl)
  try simp only [Act.put, List.setIfInBounds_toArray, List.set_cons_zero, List.set_cons_succ]
  refine wpAnyH_take (i := 2) (oi := ⟨some 12, Op.load 3 (Operand.tmp 11), 3, _, _, none⟩) (v := ?_) rfl (by kernel_rfl) (by kernel_rfl) (by kernel_rfl) (fun _ _ _ h => h) (Or.inl ⟨by rfl, ?_⟩) (by assumption) ?_
  rotate_left 1
  ·(intro w hSw; (try dsimp only at hSw); go_simp; first | done | with_reducible rfl)
  try simp only [Act.put, List.setIfInBounds_toArray, List.set_cons_zero, List.set_cons_succ]
  refine wpAnyH_take (i := 3) (oi := ⟨some 13, Op.fieldAddr 29 (Operand.tmp 3) 2, 0, _, _, none⟩) (v := ?_) rfl (by kernel_rfl) (by kernel_rfl) (by kernel_rfl) (fun _ _ _ h => h) (Or.inl ⟨by rfl, ?_⟩) (by assumption) ?_
  rotate_left 1
  ·(intro w hSw; (try dsimp only at hSw); go_simp; first | done | with_reducible rfl)
  try simp only [Act.put, List.setIfInBounds_toArray, List.set_cons_zero, List.set_cons_succ]
  refine wpAnyH_take (i := 4) (oi := ⟨some 14, Op.load 27 (Operand.tmp 13), 27, _, _, none⟩) (v := ?_) rfl (by kernel_rfl) (by kernel_rfl) (by kernel_rfl) (fun _ _ _ h => h) (Or.inl ⟨by rfl, ?_⟩) (by assumption) ?_
  rotate_left 1
  ·(intro w hSw; (try dsimp only at hSw); go_simp; first | done | with_reducible rfl)
  try simp only [Act.put, List.setIfInBounds_toArray, List.set_cons_zero, List.set_cons_succ]
  refine wpAnyH_ready (rs := [5, 7]) (by kernel_rfl) (by simp) ?_
  refine AllReadyH.cons (o := ⟨some 15, Op.call { callee := Callee.value (Operand.func 166), args := #[Operand.tmp 14], argTypes := #[27] }, 27, _, _, none⟩) rfl (fun K hK => ?_) (AllReadyH.cons (o := ⟨some 7, Op.alloc 29, 0, _, _, none⟩) rfl (fun K hK => ?_) AllReadyH.nil)
  ·go_simp
   refine (KC.out _ (by first | exact hs_W2 | exact since_d hs_W2)).mono ?_
   rintro e v1 ⟨b1, m1, d1, rfl, hOh, hBh⟩
   have hp : Since W2 v1 := (by first | exact hBh.out | exact Since.step (since_d (since_r _)) hBh.out)
   have hs_v1 : Since W2 v1 := Since.step hs_W2 hp
   have hA1 : ∀ g, (.slice b1 m1 d1 : Value).ownBlock = some g → (World.heap W2).size ≤ g ∧ g < (World.heap v1).size := fun g e => hOh.out.lt g e
   have hO1 := hOh.out.base (B' := W2.heap.size) (show W2.heap.size ≤ (World.heap W2).size from Below.size hs_W2)
   have hz_v1 : (World.heap W2).size ≤ (World.heap v1).size := Below.size hp
   clear hOh hBh
   try go_wp2_with fail
   refine hK.out _ _ ?_ (fun hHeld => ?_)
   ·(with_reducible refine ⟨Since.cell ?_ c1, Since.cell ?_ c2a, ?_⟩) <;> (repeat (first | with_reducible assumption | with_reducible exact since_r _ | with_reducible refine Since.alloc ?_ _ | with_reducible refine since_d ?_))
   clear hK K
   try simp only [Act.put, List.setIfInBounds_toArray, List.set_cons_zero, List.set_cons_succ]
   refine wpAnyH_take (i := 6) (oi := ⟨some 16, Op.build 29 #[(0, Operand.tmp 10), (1, Operand.tmp 12), (2, Operand.tmp 15)], 29, _, _, none⟩) (v := ?_) rfl (by kernel_rfl) (by kernel_rfl) (by kernel_rfl) (fun _ _ _ h => h) (Or.inl ⟨by rfl, ?_⟩) (by assumption) ?_
   rotate_left 1
   ·(intro w hSw; (try dsimp only at hSw); go_simp; first | done | with_reducible rfl)
   try simp only [Act.put, List.setIfInBounds_toArray, List.set_cons_zero, List.set_cons_succ]
   refine wpAnyH_ready (rs := [7]) (by kernel_rfl) (by simp) ?_
   refine AllReadyH.cons (o := ⟨some 7, Op.alloc 29, 0, _, _, none⟩) rfl (fun K hK => ?_) AllReadyH.nil
   go_simp
   try go_wp2_with fail
   refine hK.out _ _ ?_ (fun hHeld => ?_)
   ·(with_reducible refine ⟨Since.cell ?_ c1, Since.cell ?_ c2a, ?_⟩) <;> (repeat (first | with_reducible assumption | with_reducible exact since_r _ | with_reducible refine Since.alloc ?_ _ | with_reducible refine since_d ?_))
   clear hK K
   try simp only [Act.put, List.setIfInBounds_toArray, List.set_cons_zero, List.set_cons_succ]
   obtain ⟨z, hz⟩ : ∃ v, v = World.alloc v1 (.cells #[.int .i64 0, .int .i64 0, .slice none 0 0, .slice none 0 0] 29) := ⟨_, rfl⟩
   obtain ⟨u, hu⟩ : ∃ v, v = World.alloc (World.drew v1) (.cells #[.int .i64 0, .int .i64 0, .slice none 0 0, .slice none 0 0] 29) := ⟨_, rfl⟩
   have hzX : BoxL (World.heap v1).size [.int .i64 0, .int .i64 0, .slice none 0 0, .slice none 0 0] z ∧ Since v1 z := by rw [hz]; exact ⟨BoxL.made v1 _ _, Since.alloc (since_r _) _⟩
   have huX : BoxL (World.heap v1).size [.int .i64 0, .int .i64 0, .slice none 0 0, .slice none 0 0] u ∧ Since v1 u := by rw [hu]; exact ⟨BoxL.made (World.drew v1) _ _, Since.alloc (since_d (since_r _)) _⟩
   first | (rw [← hz]; clear hu huX u; have hX := hzX; clear hzX hz; generalize z = y1 at *) | (rw [← hu]; clear hz hzX z; have hX := huX; clear huX hu; generalize u = y1 at *)
   have hp := hX.2
   have hX := hX.1
   have hs_y1 : Since W2 y1 := Since.step hs_v1 hp
   have hNH : (World.heap v1).size < (World.heap y1).size := hX.1
   have hO1 := hO1.below hp
   clear hp
   generalize hNN : (World.heap v1).size = NB at hX hNH ⊢
   have hNL : W2.heap.size ≤ NB := by rw [← hNN]; exact Below.size hs_v1
   obtain ⟨z0, z1, z2, z3, zf0, zf1, zf2, zf3, -⟩ := hX.all4
   refine wpAnyH_ready (rs := [8]) (by kernel_rfl) (by simp) ?_
   refine AllReadyH.cons (o := ⟨none, Op.store 29 (Operand.tmp 7) (Operand.tmp 16), 0, _, _, none⟩) rfl (fun K hK => ?_) AllReadyH.nil
   go_simp
   go_wp2_with fail
   have hs9 : Since W2 (put4 y1 NB (.int .i64 op') (.int .i64 nn) (.slice b1 m1 d1) (.slice none 0 0)) := put4_below hs_y1 hNL _ _ _ _
   unfold put4 at hs9
   refine hK.out _ _ ?_ (fun hHeld => ?_)
   ·(with_reducible refine ⟨Since.cell ?_ c1, Since.cell ?_ c2a, ?_⟩) <;> (repeat (first | with_reducible assumption | with_reducible exact since_r _ | with_reducible refine Since.alloc ?_ _ | with_reducible refine since_d ?_))
   clear hK K
   try simp only [Act.put, List.setIfInBounds_toArray, List.set_cons_zero, List.set_cons_succ]
   refine wpAnyH_done (by kernel_rfl) ?_ _
   refine NoPanic.normal ?_
   go_wp2_with fail
   go_meet
   have HOB := OF.made (S := fun k => (S0 k ∧ k < W.heap.size) ∨ W2.heap.size ≤ k) hX hNL hO1 (fun e => by have := hA1 _ e; omega) op' nn
   unfold put4 at HOB
   exact ⟨_, _, _, _, rfl, Lib.hid HOB, Lib.hid hs9⟩
  ·go_simp
   try go_wp2_with fail
   refine hK.out _ _ ?_ (fun hHeld => ?_)
   ·(with_reducible refine ⟨Since.cell ?_ c1, Since.cell ?_ c2a, ?_⟩) <;> (repeat (first | with_reducible assumption | with_reducible exact since_r _ | with_reducible refine Since.alloc ?_ _ | with_reducible refine since_d ?_))
   clear hK K
   try simp only [Act.put, List.setIfInBounds_toArray, List.set_cons_zero, List.set_cons_succ]
   obtain ⟨z, hz⟩ : ∃ v, v = World.alloc W2 (.cells #[.int .i64 0, .int .i64 0, .slice none 0 0, .slice none 0 0] 29) := ⟨_, rfl⟩
   obtain ⟨u, hu⟩ : ∃ v, v = World.alloc (World.drew W2) (.cells #[.int .i64 0, .int .i64 0, .slice none 0 0, .slice none 0 0] 29) := ⟨_, rfl⟩
   have hzX : BoxL (World.heap W2).size [.int .i64 0, .int .i64 0, .slice none 0 0, .slice none 0 0] z ∧ Since W2 z := by rw [hz]; exact ⟨BoxL.made W2 _ _, Since.alloc (since_r _) _⟩
   have huX : BoxL (World.heap W2).size [.int .i64 0, .int .i64 0, .slice none 0 0, .slice none 0 0] u ∧ Since W2 u := by rw [hu]; exact ⟨BoxL.made (World.drew W2) _ _, Since.alloc (since_d (since_r _)) _⟩
   first | (rw [← hz]; clear hu huX u; have hX := hzX; clear hzX hz; generalize z = y1 at *) | (rw [← hu]; clear hz hzX z; have hX := huX; clear huX hu; generalize u = y1 at *)
   have hp := hX.2
   have hX := hX.1
   have hs_y1 : Since W2 y1 := Since.step hs_W2 hp
   have hNH : (World.heap W2).size < (World.heap y1).size := hX.1
   clear hp
   generalize hNN : (World.heap W2).size = NB at hX hNH ⊢
   have hNL : W2.heap.size ≤ NB := by rw [← hNN]; exact Nat.le_refl _
   refine wpAnyH_ready (rs := [5]) (by kernel_rfl) (by simp) ?_
   refine AllReadyH.cons (o := ⟨some 15, Op.call { callee := Callee.value (Operand.func 166), args := #[Operand.tmp 14], argTypes := #[27] }, 27, _, _, none⟩) rfl (fun K hK => ?_) AllReadyH.nil
   go_simp
   refine (KC.out _ (by first | exact hs_y1 | exact since_d hs_y1)).mono ?_
   rintro e v1 ⟨b1, m1, d1, rfl, hOh, hBh⟩
   have hp : Since y1 v1 := (by first | exact hBh.out | exact Since.step (since_d (since_r _)) hBh.out)
   have hs_v1 : Since W2 v1 := Since.step hs_y1 hp
   have hA1 : ∀ g, (.slice b1 m1 d1 : Value).ownBlock = some g → (World.heap y1).size ≤ g ∧ g < (World.heap v1).size := fun g e => hOh.out.lt g e
   have hO1 := hOh.out.base (B' := W2.heap.size) (show W2.heap.size ≤ (World.heap y1).size from Below.size hs_y1)
   have hz_v1 : (World.heap y1).size ≤ (World.heap v1).size := Below.size hp
   clear hOh hBh
   try go_wp2_with fail
   refine hK.out _ _ ?_ (fun hHeld => ?_)
   ·(with_reducible refine ⟨Since.cell ?_ c1, Since.cell ?_ c2a, ?_⟩) <;> (repeat (first | with_reducible assumption | with_reducible exact since_r _ | with_reducible refine Since.alloc ?_ _ | with_reducible refine since_d ?_))
   clear hK K
   try simp only [Act.put, List.setIfInBounds_toArray, List.set_cons_zero, List.set_cons_succ]
   have hX := hX.keep hp
   clear hp
   refine wpAnyH_take (i := 6) (oi := ⟨some 16, Op.build 29 #[(0, Operand.tmp 10), (1, Operand.tmp 12), (2, Operand.tmp 15)], 29, _, _, none⟩) (v := ?_) rfl (by kernel_rfl) (by kernel_rfl) (by kernel_rfl) (fun _ _ _ h => h) (Or.inl ⟨by rfl, ?_⟩) (by assumption) ?_
   rotate_left 1
   ·(intro w hSw; (try dsimp only at hSw); go_simp; first | done | with_reducible rfl)
   try simp only [Act.put, List.setIfInBounds_toArray, List.set_cons_zero, List.set_cons_succ]
   obtain ⟨z0, z1, z2, z3, zf0, zf1, zf2, zf3, -⟩ := hX.all4
   refine wpAnyH_ready (rs := [8]) (by kernel_rfl) (by simp) ?_
   refine AllReadyH.cons (o := ⟨none, Op.store 29 (Operand.tmp 7) (Operand.tmp 16), 0, _, _, none⟩) rfl (fun K hK => ?_) AllReadyH.nil
   go_simp
   go_wp2_with fail
   have hs9 : Since W2 (put4 v1 NB (.int .i64 op') (.int .i64 nn) (.slice b1 m1 d1) (.slice none 0 0)) := put4_below hs_v1 hNL _ _ _ _
   unfold put4 at hs9
   refine hK.out _ _ ?_ (fun hHeld => ?_)
   ·(with_reducible refine ⟨Since.cell ?_ c1, Since.cell ?_ c2a, ?_⟩) <;> (repeat (first | with_reducible assumption | with_reducible exact since_r _ | with_reducible refine Since.alloc ?_ _ | with_reducible refine since_d ?_))
   clear hK K
   try simp only [Act.put, List.setIfInBounds_toArray, List.set_cons_zero, List.set_cons_succ]
   refine wpAnyH_done (by kernel_rfl) ?_ _
   refine NoPanic.normal ?_
   go_wp2_with fail
   go_meet
   have HOB := OF.made (S := fun k => (S0 k ∧ k < W.heap.size) ∨ W2.heap.size ≤ k) hX hNL hO1 (fun e => by have := hA1 _ e; omega) op' nn
   unfold put4 at HOB
   exact ⟨_, _, _, _, rfl, Lib.hid HOB, Lib.hid hs9⟩
 case rest =>
 obtain ⟨M, b1, m1, d1, rfl, hO, hS⟩ := hcut
 rename World => wo
 have HO := Lib.hid hO.out
 have HS := Lib.hid hS.out
 obtain ⟨q0, q1, q2, q3, -⟩ := (HX2.out.keep hS.out).open4
 clear hO hS c0 c1 c2a c3a KC
 go_wp2
 go_loopw [20] (fun v wr => ∃ (k : Nat) (ak : Option Addr) (lk ck : Nat) (rs : List Fr), k ≤ n3 ∧ v = .int .i64 k ∧ Hid (OF (fun k => (S0 k ∧ k < W.heap.size) ∨ W2.heap.size ≤ k) W2.heap.size M wr op' nn (.slice b1 m1 d1) (.slice ak lk ck) is rs ((ks.take k).map g)) ∧ Hid (Since W2 wr)) (fun v _ => n3 - (intOf v).toNat)
 case atStart => exact ⟨0, none, 0, 0, [], by omega, rfl, HO, HS⟩
 case round =>
  obtain ⟨k, ak, lk, ck, rs, hk, rfl, hO, hS⟩ := hrel
  clear HO HS
  by_cases hlt2 : k < n3
  ·have j1 : (k : Int) < n3 := by omega
   obtain ⟨g3, u, ua, um, ud, va, vm, vd, rfl, hSg, hg3, hcap, hu, u0, u1, u2, u3, hFu⟩ := HKD.out k hlt2
   have hBw := HBS.out wr hS.out
   have r0 : wr.cell? ⟨g3, k * 4, none⟩ = some (.int .i64 u.op) := (hBw.cell (p := ⟨g3, k * 4, none⟩) hg3).trans u0
   have r1 : wr.cell? ⟨g3, k * 4 + 1, none⟩ = some (.int .i64 u.n) := (hBw.cell (p := ⟨g3, k * 4 + 1, none⟩) hg3).trans u1
   have r2 : wr.cell? ⟨g3, k * 4 + 2, none⟩ = some (.slice ua um ud) := (hBw.cell (p := ⟨g3, k * 4 + 2, none⟩) hg3).trans u2
   have r3 : wr.cell? ⟨g3, k * 4 + 3, none⟩ = some (.slice va vm vd) := (hBw.cell (p := ⟨g3, k * 4 + 3, none⟩) hg3).trans u3
   obtain ⟨wx, hwx⟩ : ∃ wx, wx = wr.alloc (.cells #[.int .i64 u.op, .int .i64 u.n, .slice ua um ud, .slice va vm vd] 29) := ⟨_, rfl⟩
   have hSx : Since wr wx := by rw [hwx]; exact Since.alloc (since_r _) _
   have hX5 : BoxL wr.heap.size [.int .i64 u.op, .int .i64 u.n, .slice ua um ud, .slice va vm vd] wx := by rw [hwx]; exact BoxL.made wr _ _
   have HOX := Lib.hid (hO.out.frame hSx)
   have HSX := Lib.hid (Since.step hS.out hSx)
   have hSWV : ∀ V, Since wx V → Since W V := fun V hV => HBS.out V (Since.step HSX.out hV)
   have KQ := Lib.hid fun (V : World) (hV : Since wx V) => HHK.out u (List.mem_of_getElem? hu) (.slice ua um ud) (.slice va vm vd) V (hSWV V hV) (FS.mono (fun k h => h.1) _ (FS.keep (S' := fun k => S0 k ∧ k < W.heap.size) ⟨(hSWV V hV).size, fun b hb _ => (hSWV V hV).block b (HS0.out b hb)⟩ (fun b hl hb => ⟨hb, hl⟩) u hFu))
   have HSTEP : Hid ((ks.take (k + 1)).map g = (ks.take k).map g ++ [g u]) := Lib.hid (by rw [List.take_add_one, hu, List.map_append]; rfl)
   have hlr : rs.length + 1 ≤ 1000000000 := by have := hO.out.lie.1; rw [List.length_map, List.length_take] at this; omega
   have hSB : ∀ k, W2.heap.size ≤ k → (S0 k ∧ k < W.heap.size) ∨ W2.heap.size ≤ k := fun k h => .inr h
   have hS1 : ∀ k, (S0 k ∧ k < W.heap.size) → ((S0 k ∧ k < W.heap.size) ∨ W2.heap.size ≤ k) ∧ k < W2.heap.size := fun k h => ⟨.inl h, by have := HZ2.out; have := h.2; omega⟩
   have i2 : IntKind.i64.wrap ((k : Int) + 1) = ((k + 1 : Nat) : Int) := by rw [IntWalk.i64_in _ (by omega)]; omega
   clear hSWV hu hFu u0 u1 u2 u3 hBw
   go_upto_region 5 with (fail)
   rw [← hwx]
   clear hwx hSx r0 r1 r2 r3
   obtain ⟨o0, o1, o2, o3, -⟩ := hX5.open4
   obtain ⟨x0, x1, x2, x3, f0, f1, f2, f3, -⟩ := HOX.out.box.all4
   refine wp_region_noPanic ?_
   refine wp_region_held_drew (S := fun _ => True) (by kernel_rfl) (by trivial) (fun hHeld => ?_)
   refine wpAnyH_take (i := 0) (oi := ⟨some 24, Op.fieldAddr 29 (Operand.tmp 7) 3, 0, _, _, none⟩) (v := ?_) rfl (by kernel_rfl) (by kernel_rfl) (by kernel_rfl) (fun _ _ _ h => h) (Or.inl ⟨by rfl, ?_⟩) (by assumption) ?_
   rotate_left 1
   ·(intro w hSw; (try dsimp only at hSw); go_simp; first | done | with_reducible rfl)
   try simp only [Act.put, List.setIfInBounds_toArray, List.set_cons_zero, List.set_cons_succ]
   refine wpAnyH_take (i := 2) (oi := { dst := some 26, op := Op.move (Operand.tmp 2), type := 67, pos := _, after := #[], guard := none }) (v := ?_) rfl (by kernel_rfl) (by kernel_rfl) (by kernel_rfl) (fun _ _ _ h => h) (Or.inl ⟨by rfl, ?_⟩) (by assumption) ?_
   rotate_left 1
   ·(intro w hSw; (try dsimp only at hSw); go_simp; first | done | with_reducible rfl)
   try simp only [Act.put, List.setIfInBounds_toArray, List.set_cons_zero, List.set_cons_succ]
   refine wpAnyH_ready (rs := [1, 3]) (by kernel_rfl) (by simp) ?_
   refine AllReadyH.cons (o := ⟨some 25, Op.load 23 (Operand.tmp 24), 23, _, _, none⟩) rfl (fun K hK => ?_) (AllReadyH.cons (o := ⟨some 27, Op.load 29 (Operand.tmp 9), 29, _, _, none⟩) rfl (fun K hK => ?_) AllReadyH.nil)
   ·go_simp
    try go_wp2_with fail
    refine hK.out _ _ ?_ (fun hHeld => ?_)
    ·trivial
    clear hK K
    try simp only [Act.put, List.setIfInBounds_toArray, List.set_cons_zero, List.set_cons_succ]
    refine wpAnyH_ready (rs := [3]) (by kernel_rfl) (by simp) ?_
    refine AllReadyH.cons (o := ⟨some 27, Op.load 29 (Operand.tmp 9), 29, _, _, none⟩) rfl (fun K hK => ?_) AllReadyH.nil
    go_simp
    try go_wp2_with fail
    refine hK.out _ _ ?_ (fun hHeld => ?_)
    ·trivial
    clear hK K
    try simp only [Act.put, List.setIfInBounds_toArray, List.set_cons_zero, List.set_cons_succ]
    refine wpAnyH_ready (rs := [4]) (by kernel_rfl) (by simp) ?_
    refine AllReadyH.cons (o := ⟨some 28, Op.call { callee := Callee.value (Operand.tmp 26), args := #[Operand.tmp 27], argTypes := #[29] }, 29, _, _, none⟩) rfl (fun K hK => ?_) AllReadyH.nil
    go_simp
    refine (KQ.out _ (by first | exact since_r _ | exact since_d (since_r _))).mono ?_
    rintro e v9 ⟨⟨fop, fn, fa2, fn2, fc2, fa3, fn3, fc3⟩, rfl, hT9, hB9⟩
    try simp only
    have hS9 : Since wx v9 := (by first | exact hB9.out | exact Since.step (since_d (since_r _)) hB9.out)
    have hkid := OF.kid0 (S1 := fun k => S0 k ∧ k < W.heap.size) (t := g u) (r := ⟨fop, fn, fa2, fn2, fc2, fa3, fn3, fc3⟩) HOX.out hS9 hSB hS1 (by exact hT9.out) (.cells #[.int .i64 fop, .int .i64 fn, .slice fa2 fn2 fc2, .slice fa3 fn3 fc3] 29)
    have HO9 := Lib.hid hkid.1
    have HL9 := Lib.hid hkid.2
    have HS9 := Lib.hid (Since.alloc hS9 (.cells #[.int .i64 fop, .int .i64 fn, .slice fa2 fn2 fc2, .slice fa3 fn3 fc3] 29))
    have HCL := Lib.hid (one_cells RFo v9 ⟨fop, fn, fa2, fn2, fc2, fa3, fn3, fc3⟩ #[.int .i64 fop, .int .i64 fn, .slice fa2 fn2 fc2, .slice fa3 fn3 fc3] 29 rfl)
    have hzB : W2.heap.size ≤ (v9.alloc (.cells #[.int .i64 fop, .int .i64 fn, .slice fa2 fn2 fc2, .slice fa3 fn3 fc3] 29)).heap.size := by have := HO9.out.box.1; have := HO9.out.hB; omega
    obtain ⟨t0, t1, t2, t3, -, -, -, ht3, -⟩ := (HOX.out.frame hS9).box.all4
    obtain ⟨s0, s1, s2, s3, -, -, -, hs3, -⟩ := HO9.out.box.all4
    clear hT9 hB9 hkid
    try go_wp2_with fail
    refine hK.out _ _ ?_ (fun hHeld => ?_)
    ·trivial
    clear hK K
    try simp only [Act.put, List.setIfInBounds_toArray, List.set_cons_zero, List.set_cons_succ]
    refine wpAnyH_ready (rs := [5]) (by kernel_rfl) (by simp) ?_
    refine AllReadyH.cons (o := ⟨some 29, Op.buildSlice 23 1 #[(0, Operand.tmp 28)], 23, _, _, none⟩) rfl (fun K hK => ?_) AllReadyH.nil
    go_simp
    try go_wp2_with fail
    refine hK.out _ _ ?_ (fun hHeld => ?_)
    ·trivial
    clear hK K
    try simp only [Act.put, List.setIfInBounds_toArray, List.set_cons_zero, List.set_cons_succ]
    refine wpAnyH_ready (rs := [6]) (by kernel_rfl) (by simp) ?_
    refine AllReadyH.cons (o := ⟨some 30, Op.call { callee := Callee.builtin Builtin.append, args := #[Operand.tmp 25, Operand.tmp 29], argTypes := #[23, 23] }, 23, _, _, none⟩) rfl (fun K hK => ?_) AllReadyH.nil
    refine wp_row1_f (.tmp 25) (.tmp 29) 23 rfl RFo 29 64 _ Tryz.underlying23 Tryz.infoFo rfl (by decide) W2.heap.size (.slice ak lk ck) rs [⟨fop, fn, fa2, fn2, fc2, fa3, fn3, fc3⟩] v9.heap.size 1 1 rfl rfl rfl HCL.out HO9.out.ok hzB hlr ?_
    intro aq lq cq wn hnn hOn hBn hPn
    obtain ⟨y0, y1, y2, y3, g0, g1, g2, g3, -⟩ := (HO9.out.thereK hPn.out).all4
    refine hK.out _ _ ?_ (fun hHeld => ?_)
    ·trivial
    clear hK K
    try simp only [Act.put, List.setIfInBounds_toArray, List.set_cons_zero, List.set_cons_succ]
    refine wpAnyH_take (i := 7) (oi := ⟨some 31, Op.fieldAddr 29 (Operand.tmp 7) 3, 0, _, _, none⟩) (v := ?_) rfl (by kernel_rfl) (by kernel_rfl) (by kernel_rfl) (fun _ _ _ h => h) (Or.inl ⟨by rfl, ?_⟩) (by assumption) ?_
    rotate_left 1
    ·(intro w hSw; (try dsimp only at hSw); go_simp; first | done | with_reducible rfl)
    try simp only [Act.put, List.setIfInBounds_toArray, List.set_cons_zero, List.set_cons_succ]
    refine wpAnyH_ready (rs := [8]) (by kernel_rfl) (by simp) ?_
    refine AllReadyH.cons (o := ⟨none, Op.store 23 (Operand.tmp 31) (Operand.tmp 30), 0, _, _, none⟩) rfl (fun K hK => ?_) AllReadyH.nil
    go_simp
    go_wp2_with fail
    refine hK.out _ _ ?_ (fun hHeld => ?_)
    ·trivial
    clear hK K
    try simp only [Act.put, List.setIfInBounds_toArray, List.set_cons_zero, List.set_cons_succ]
    refine wpAnyH_done (by kernel_rfl) ?_ _
    refine NoPanic.normal ?_
    have hO7 := HO9.out.setK hPn.out hOn.out HL9.out
    have HO7 : Hid (OF (fun k => (S0 k ∧ k < W.heap.size) ∨ W2.heap.size ≤ k) W2.heap.size M (wn.setCell ⟨M, 3, none⟩ (.slice aq lq cq)) op' nn (.slice b1 m1 d1) (.slice aq lq cq) is (rs ++ [⟨fop, fn, fa2, fn2, fc2, fa3, fn3, fc3⟩]) ((ks.take (k + 1)).map g)) := Lib.hid (by rw [HSTEP.out]; exact hO7)
    have HS7 : Hid (Since W2 (wn.setCell ⟨M, 3, none⟩ (.slice aq lq cq))) := Lib.hid ((Below.trans (Since.step HSX.out HS9.out) hBn.out).setCell (p := ⟨M, 3, none⟩) HO9.out.hB _)
    go_wp2
    go_roundw
    case rel => exact ⟨k + 1, aq, lq, cq, _, by omega, by go_num, HO7, HS7⟩
    case measure => simp [intOf] <;> omega
   ·go_simp
    try go_wp2_with fail
    refine hK.out _ _ ?_ (fun hHeld => ?_)
    ·trivial
    clear hK K
    try simp only [Act.put, List.setIfInBounds_toArray, List.set_cons_zero, List.set_cons_succ]
    refine wpAnyH_ready (rs := [1, 4]) (by kernel_rfl) (by simp) ?_
    refine AllReadyH.cons (o := ⟨some 25, Op.load 23 (Operand.tmp 24), 23, _, _, none⟩) rfl (fun K hK => ?_) (AllReadyH.cons (o := ⟨some 28, Op.call { callee := Callee.value (Operand.tmp 26), args := #[Operand.tmp 27], argTypes := #[29] }, 29, _, _, none⟩) rfl (fun K hK => ?_) AllReadyH.nil)
    ·go_simp
     try go_wp2_with fail
     refine hK.out _ _ ?_ (fun hHeld => ?_)
     ·trivial
     clear hK K
     try simp only [Act.put, List.setIfInBounds_toArray, List.set_cons_zero, List.set_cons_succ]
     refine wpAnyH_ready (rs := [4]) (by kernel_rfl) (by simp) ?_
     refine AllReadyH.cons (o := ⟨some 28, Op.call { callee := Callee.value (Operand.tmp 26), args := #[Operand.tmp 27], argTypes := #[29] }, 29, _, _, none⟩) rfl (fun K hK => ?_) AllReadyH.nil
     go_simp
     refine (KQ.out _ (by first | exact since_r _ | exact since_d (since_r _))).mono ?_
     rintro e v9 ⟨⟨fop, fn, fa2, fn2, fc2, fa3, fn3, fc3⟩, rfl, hT9, hB9⟩
     try simp only
     have hS9 : Since wx v9 := (by first | exact hB9.out | exact Since.step (since_d (since_r _)) hB9.out)
     have hkid := OF.kid0 (S1 := fun k => S0 k ∧ k < W.heap.size) (t := g u) (r := ⟨fop, fn, fa2, fn2, fc2, fa3, fn3, fc3⟩) HOX.out hS9 hSB hS1 (by exact hT9.out) (.cells #[.int .i64 fop, .int .i64 fn, .slice fa2 fn2 fc2, .slice fa3 fn3 fc3] 29)
     have HO9 := Lib.hid hkid.1
     have HL9 := Lib.hid hkid.2
     have HS9 := Lib.hid (Since.alloc hS9 (.cells #[.int .i64 fop, .int .i64 fn, .slice fa2 fn2 fc2, .slice fa3 fn3 fc3] 29))
     have HCL := Lib.hid (one_cells RFo v9 ⟨fop, fn, fa2, fn2, fc2, fa3, fn3, fc3⟩ #[.int .i64 fop, .int .i64 fn, .slice fa2 fn2 fc2, .slice fa3 fn3 fc3] 29 rfl)
     have hzB : W2.heap.size ≤ (v9.alloc (.cells #[.int .i64 fop, .int .i64 fn, .slice fa2 fn2 fc2, .slice fa3 fn3 fc3] 29)).heap.size := by have := HO9.out.box.1; have := HO9.out.hB; omega
     obtain ⟨t0, t1, t2, t3, -, -, -, ht3, -⟩ := (HOX.out.frame hS9).box.all4
     obtain ⟨s0, s1, s2, s3, -, -, -, hs3, -⟩ := HO9.out.box.all4
     clear hT9 hB9 hkid
     try go_wp2_with fail
     refine hK.out _ _ ?_ (fun hHeld => ?_)
     ·trivial
     clear hK K
     try simp only [Act.put, List.setIfInBounds_toArray, List.set_cons_zero, List.set_cons_succ]
     refine wpAnyH_ready (rs := [5]) (by kernel_rfl) (by simp) ?_
     refine AllReadyH.cons (o := ⟨some 29, Op.buildSlice 23 1 #[(0, Operand.tmp 28)], 23, _, _, none⟩) rfl (fun K hK => ?_) AllReadyH.nil
     go_simp
     try go_wp2_with fail
     refine hK.out _ _ ?_ (fun hHeld => ?_)
     ·trivial
     clear hK K
     try simp only [Act.put, List.setIfInBounds_toArray, List.set_cons_zero, List.set_cons_succ]
     refine wpAnyH_ready (rs := [6]) (by kernel_rfl) (by simp) ?_
     refine AllReadyH.cons (o := ⟨some 30, Op.call { callee := Callee.builtin Builtin.append, args := #[Operand.tmp 25, Operand.tmp 29], argTypes := #[23, 23] }, 23, _, _, none⟩) rfl (fun K hK => ?_) AllReadyH.nil
     refine wp_row1_f (.tmp 25) (.tmp 29) 23 rfl RFo 29 64 _ Tryz.underlying23 Tryz.infoFo rfl (by decide) W2.heap.size (.slice ak lk ck) rs [⟨fop, fn, fa2, fn2, fc2, fa3, fn3, fc3⟩] v9.heap.size 1 1 rfl rfl rfl HCL.out HO9.out.ok hzB hlr ?_
     intro aq lq cq wn hnn hOn hBn hPn
     obtain ⟨y0, y1, y2, y3, g0, g1, g2, g3, -⟩ := (HO9.out.thereK hPn.out).all4
     refine hK.out _ _ ?_ (fun hHeld => ?_)
     ·trivial
     clear hK K
     try simp only [Act.put, List.setIfInBounds_toArray, List.set_cons_zero, List.set_cons_succ]
     refine wpAnyH_take (i := 7) (oi := ⟨some 31, Op.fieldAddr 29 (Operand.tmp 7) 3, 0, _, _, none⟩) (v := ?_) rfl (by kernel_rfl) (by kernel_rfl) (by kernel_rfl) (fun _ _ _ h => h) (Or.inl ⟨by rfl, ?_⟩) (by assumption) ?_
     rotate_left 1
     ·(intro w hSw; (try dsimp only at hSw); go_simp; first | done | with_reducible rfl)
     try simp only [Act.put, List.setIfInBounds_toArray, List.set_cons_zero, List.set_cons_succ]
     refine wpAnyH_ready (rs := [8]) (by kernel_rfl) (by simp) ?_
     refine AllReadyH.cons (o := ⟨none, Op.store 23 (Operand.tmp 31) (Operand.tmp 30), 0, _, _, none⟩) rfl (fun K hK => ?_) AllReadyH.nil
     go_simp
     go_wp2_with fail
     refine hK.out _ _ ?_ (fun hHeld => ?_)
     ·trivial
     clear hK K
     try simp only [Act.put, List.setIfInBounds_toArray, List.set_cons_zero, List.set_cons_succ]
     refine wpAnyH_done (by kernel_rfl) ?_ _
     refine NoPanic.normal ?_
     have hO7 := HO9.out.setK hPn.out hOn.out HL9.out
     have HO7 : Hid (OF (fun k => (S0 k ∧ k < W.heap.size) ∨ W2.heap.size ≤ k) W2.heap.size M (wn.setCell ⟨M, 3, none⟩ (.slice aq lq cq)) op' nn (.slice b1 m1 d1) (.slice aq lq cq) is (rs ++ [⟨fop, fn, fa2, fn2, fc2, fa3, fn3, fc3⟩]) ((ks.take (k + 1)).map g)) := Lib.hid (by rw [HSTEP.out]; exact hO7)
     have HS7 : Hid (Since W2 (wn.setCell ⟨M, 3, none⟩ (.slice aq lq cq))) := Lib.hid ((Below.trans (Since.step HSX.out HS9.out) hBn.out).setCell (p := ⟨M, 3, none⟩) HO9.out.hB _)
     go_wp2
     go_roundw
     case rel => exact ⟨k + 1, aq, lq, cq, _, by omega, by go_num, HO7, HS7⟩
     case measure => simp [intOf] <;> omega
    ·go_simp
     refine (KQ.out _ (by first | exact since_r _ | exact since_d (since_r _))).mono ?_
     rintro e v9 ⟨⟨fop, fn, fa2, fn2, fc2, fa3, fn3, fc3⟩, rfl, hT9, hB9⟩
     try simp only
     have hS9 : Since wx v9 := (by first | exact hB9.out | exact Since.step (since_d (since_r _)) hB9.out)
     have hkid := OF.kid0 (S1 := fun k => S0 k ∧ k < W.heap.size) (t := g u) (r := ⟨fop, fn, fa2, fn2, fc2, fa3, fn3, fc3⟩) HOX.out hS9 hSB hS1 (by exact hT9.out) (.cells #[.int .i64 fop, .int .i64 fn, .slice fa2 fn2 fc2, .slice fa3 fn3 fc3] 29)
     have HO9 := Lib.hid hkid.1
     have HL9 := Lib.hid hkid.2
     have HS9 := Lib.hid (Since.alloc hS9 (.cells #[.int .i64 fop, .int .i64 fn, .slice fa2 fn2 fc2, .slice fa3 fn3 fc3] 29))
     have HCL := Lib.hid (one_cells RFo v9 ⟨fop, fn, fa2, fn2, fc2, fa3, fn3, fc3⟩ #[.int .i64 fop, .int .i64 fn, .slice fa2 fn2 fc2, .slice fa3 fn3 fc3] 29 rfl)
     have hzB : W2.heap.size ≤ (v9.alloc (.cells #[.int .i64 fop, .int .i64 fn, .slice fa2 fn2 fc2, .slice fa3 fn3 fc3] 29)).heap.size := by have := HO9.out.box.1; have := HO9.out.hB; omega
     obtain ⟨t0, t1, t2, t3, -, -, -, ht3, -⟩ := (HOX.out.frame hS9).box.all4
     obtain ⟨s0, s1, s2, s3, -, -, -, hs3, -⟩ := HO9.out.box.all4
     clear hT9 hB9 hkid
     try go_wp2_with fail
     refine hK.out _ _ ?_ (fun hHeld => ?_)
     ·trivial
     clear hK K
     try simp only [Act.put, List.setIfInBounds_toArray, List.set_cons_zero, List.set_cons_succ]
     refine wpAnyH_ready (rs := [1, 5]) (by kernel_rfl) (by simp) ?_
     refine AllReadyH.cons (o := ⟨some 25, Op.load 23 (Operand.tmp 24), 23, _, _, none⟩) rfl (fun K hK => ?_) (AllReadyH.cons (o := ⟨some 29, Op.buildSlice 23 1 #[(0, Operand.tmp 28)], 23, _, _, none⟩) rfl (fun K hK => ?_) AllReadyH.nil)
     ·go_simp
      try go_wp2_with fail
      refine hK.out _ _ ?_ (fun hHeld => ?_)
      ·trivial
      clear hK K
      try simp only [Act.put, List.setIfInBounds_toArray, List.set_cons_zero, List.set_cons_succ]
      refine wpAnyH_ready (rs := [5]) (by kernel_rfl) (by simp) ?_
      refine AllReadyH.cons (o := ⟨some 29, Op.buildSlice 23 1 #[(0, Operand.tmp 28)], 23, _, _, none⟩) rfl (fun K hK => ?_) AllReadyH.nil
      go_simp
      try go_wp2_with fail
      refine hK.out _ _ ?_ (fun hHeld => ?_)
      ·trivial
      clear hK K
      try simp only [Act.put, List.setIfInBounds_toArray, List.set_cons_zero, List.set_cons_succ]
      refine wpAnyH_ready (rs := [6]) (by kernel_rfl) (by simp) ?_
      refine AllReadyH.cons (o := ⟨some 30, Op.call { callee := Callee.builtin Builtin.append, args := #[Operand.tmp 25, Operand.tmp 29], argTypes := #[23, 23] }, 23, _, _, none⟩) rfl (fun K hK => ?_) AllReadyH.nil
      refine wp_row1_f (.tmp 25) (.tmp 29) 23 rfl RFo 29 64 _ Tryz.underlying23 Tryz.infoFo rfl (by decide) W2.heap.size (.slice ak lk ck) rs [⟨fop, fn, fa2, fn2, fc2, fa3, fn3, fc3⟩] v9.heap.size 1 1 rfl rfl rfl HCL.out HO9.out.ok hzB hlr ?_
      intro aq lq cq wn hnn hOn hBn hPn
      obtain ⟨y0, y1, y2, y3, g0, g1, g2, g3, -⟩ := (HO9.out.thereK hPn.out).all4
      refine hK.out _ _ ?_ (fun hHeld => ?_)
      ·trivial
      clear hK K
      try simp only [Act.put, List.setIfInBounds_toArray, List.set_cons_zero, List.set_cons_succ]
      refine wpAnyH_take (i := 7) (oi := ⟨some 31, Op.fieldAddr 29 (Operand.tmp 7) 3, 0, _, _, none⟩) (v := ?_) rfl (by kernel_rfl) (by kernel_rfl) (by kernel_rfl) (fun _ _ _ h => h) (Or.inl ⟨by rfl, ?_⟩) (by assumption) ?_
      rotate_left 1
      ·(intro w hSw; (try dsimp only at hSw); go_simp; first | done | with_reducible rfl)
      try simp only [Act.put, List.setIfInBounds_toArray, List.set_cons_zero, List.set_cons_succ]
      refine wpAnyH_ready (rs := [8]) (by kernel_rfl) (by simp) ?_
      refine AllReadyH.cons (o := ⟨none, Op.store 23 (Operand.tmp 31) (Operand.tmp 30), 0, _, _, none⟩) rfl (fun K hK => ?_) AllReadyH.nil
      go_simp
      go_wp2_with fail
      refine hK.out _ _ ?_ (fun hHeld => ?_)
      ·trivial
      clear hK K
      try simp only [Act.put, List.setIfInBounds_toArray, List.set_cons_zero, List.set_cons_succ]
      refine wpAnyH_done (by kernel_rfl) ?_ _
      refine NoPanic.normal ?_
      have hO7 := HO9.out.setK hPn.out hOn.out HL9.out
      have HO7 : Hid (OF (fun k => (S0 k ∧ k < W.heap.size) ∨ W2.heap.size ≤ k) W2.heap.size M (wn.setCell ⟨M, 3, none⟩ (.slice aq lq cq)) op' nn (.slice b1 m1 d1) (.slice aq lq cq) is (rs ++ [⟨fop, fn, fa2, fn2, fc2, fa3, fn3, fc3⟩]) ((ks.take (k + 1)).map g)) := Lib.hid (by rw [HSTEP.out]; exact hO7)
      have HS7 : Hid (Since W2 (wn.setCell ⟨M, 3, none⟩ (.slice aq lq cq))) := Lib.hid ((Below.trans (Since.step HSX.out HS9.out) hBn.out).setCell (p := ⟨M, 3, none⟩) HO9.out.hB _)
      go_wp2
      go_roundw
      case rel => exact ⟨k + 1, aq, lq, cq, _, by omega, by go_num, HO7, HS7⟩
      case measure => simp [intOf] <;> omega
     ·go_simp
      try go_wp2_with fail
      refine hK.out _ _ ?_ (fun hHeld => ?_)
      ·trivial
      clear hK K
      try simp only [Act.put, List.setIfInBounds_toArray, List.set_cons_zero, List.set_cons_succ]
      refine wpAnyH_ready (rs := [1]) (by kernel_rfl) (by simp) ?_
      refine AllReadyH.cons (o := ⟨some 25, Op.load 23 (Operand.tmp 24), 23, _, _, none⟩) rfl (fun K hK => ?_) AllReadyH.nil
      go_simp
      try go_wp2_with fail
      refine hK.out _ _ ?_ (fun hHeld => ?_)
      ·trivial
      clear hK K
      try simp only [Act.put, List.setIfInBounds_toArray, List.set_cons_zero, List.set_cons_succ]
      refine wpAnyH_ready (rs := [6]) (by kernel_rfl) (by simp) ?_
      refine AllReadyH.cons (o := ⟨some 30, Op.call { callee := Callee.builtin Builtin.append, args := #[Operand.tmp 25, Operand.tmp 29], argTypes := #[23, 23] }, 23, _, _, none⟩) rfl (fun K hK => ?_) AllReadyH.nil
      refine wp_row1_f (.tmp 25) (.tmp 29) 23 rfl RFo 29 64 _ Tryz.underlying23 Tryz.infoFo rfl (by decide) W2.heap.size (.slice ak lk ck) rs [⟨fop, fn, fa2, fn2, fc2, fa3, fn3, fc3⟩] v9.heap.size 1 1 rfl rfl rfl HCL.out HO9.out.ok hzB hlr ?_
      intro aq lq cq wn hnn hOn hBn hPn
      obtain ⟨y0, y1, y2, y3, g0, g1, g2, g3, -⟩ := (HO9.out.thereK hPn.out).all4
      refine hK.out _ _ ?_ (fun hHeld => ?_)
      ·trivial
      clear hK K
      try simp only [Act.put, List.setIfInBounds_toArray, List.set_cons_zero, List.set_cons_succ]
      refine wpAnyH_take (i := 7) (oi := ⟨some 31, Op.fieldAddr 29 (Operand.tmp 7) 3, 0, _, _, none⟩) (v := ?_) rfl (by kernel_rfl) (by kernel_rfl) (by kernel_rfl) (fun _ _ _ h => h) (Or.inl ⟨by rfl, ?_⟩) (by assumption) ?_
      rotate_left 1
      ·(intro w hSw; (try dsimp only at hSw); go_simp; first | done | with_reducible rfl)
      try simp only [Act.put, List.setIfInBounds_toArray, List.set_cons_zero, List.set_cons_succ]
      refine wpAnyH_ready (rs := [8]) (by kernel_rfl) (by simp) ?_
      refine AllReadyH.cons (o := ⟨none, Op.store 23 (Operand.tmp 31) (Operand.tmp 30), 0, _, _, none⟩) rfl (fun K hK => ?_) AllReadyH.nil
      go_simp
      go_wp2_with fail
      refine hK.out _ _ ?_ (fun hHeld => ?_)
      ·trivial
      clear hK K
      try simp only [Act.put, List.setIfInBounds_toArray, List.set_cons_zero, List.set_cons_succ]
      refine wpAnyH_done (by kernel_rfl) ?_ _
      refine NoPanic.normal ?_
      have hO7 := HO9.out.setK hPn.out hOn.out HL9.out
      have HO7 : Hid (OF (fun k => (S0 k ∧ k < W.heap.size) ∨ W2.heap.size ≤ k) W2.heap.size M (wn.setCell ⟨M, 3, none⟩ (.slice aq lq cq)) op' nn (.slice b1 m1 d1) (.slice aq lq cq) is (rs ++ [⟨fop, fn, fa2, fn2, fc2, fa3, fn3, fc3⟩]) ((ks.take (k + 1)).map g)) := Lib.hid (by rw [HSTEP.out]; exact hO7)
      have HS7 : Hid (Since W2 (wn.setCell ⟨M, 3, none⟩ (.slice aq lq cq))) := Lib.hid ((Below.trans (Since.step HSX.out HS9.out) hBn.out).setCell (p := ⟨M, 3, none⟩) HO9.out.hB _)
      go_wp2
      go_roundw
      case rel => exact ⟨k + 1, aq, lq, cq, _, by omega, by go_num, HO7, HS7⟩
      case measure => simp [intOf] <;> omega
  ·have j1 : ¬ (k : Int) < n3 := by omega
   have hk1 : ks.take k = ks := List.take_of_length_le (by rw [HNK.out]; omega)
   rw [hk1] at hO
   obtain ⟨x0, x1, x2, x3, f0, f1, f2, f3, -⟩ := hO.out.box.all4
   obtain ⟨z0, z1, z2, z3, zf0, zf1, zf2, zf3, -⟩ := (HR2.out.keep hS.out).all4
   have hfin := put4_end (S0 := S0) (N := W.heap.size + 1) (HBS.out wr hS.out) (by omega) ⟨op', nn, b1, m1, d1, ak, lk, ck⟩ ⟨rfl, rfl, FS.mono (fun q hq => ⟨by
    have := HZ2.out
    rcases hq.1 with h1 | h1
    ·exact .inl h1
    ·exact .inr ⟨by omega, by omega⟩, hq.2⟩) _ (hO.out.done fun k h => .inr h)⟩ _ _ rfl rfl
   have HF := Lib.hid hfin
   unfold put4 at HF
   clear hfin hO hS HHK HKD HBS hk1
   generalize ks.map g = kg at *
   go_wp2
   exact bodyPost_ret (v := .agg #[.int .i64 op', .int .i64 nn, .slice b1 m1 d1, .slice ak lk ck]) (by simp [results, Tryz.results119, go_sem, z0, z1, z2, z3]) rfl HF.out
set_option maxHeartbeats 16000000 in
set_option maxRecDepth 100000 in
theorem rebN_any (b4 b3 : Nat) (g : Fo → Fo) (S0 : Nat → Prop) (f : Fo) (hf : f.size ≤ 1000000) (hil : f.is.length ≤ 1000000) (op' : Int) (c d : Value) (W : World) (hS0 : ∀ k, S0 k → k < W.heap.size) (hT : FS S0 W f c d)
  (HK : ∀ u ∈ f.ks, ∀ (c d : Value) (V : World), Since W V → FS (fun k => S0 k ∧ k < W.heap.size) V u c d → Calls Tryz.prog 120 #[.agg #[.int .i64 u.op, .int .i64 u.n, c, d], .pointer (some ⟨b4, 0, none⟩), .pointer (some ⟨b3, 0, none⟩)] V (FoOut (fun k => S0 k ∧ k < W.heap.size) (g u) V)) :
  Calls Tryz.prog 119 #[.agg #[.int .i64 f.op, .int .i64 f.n, c, d], .int .i64 op', .func (.func 120) #[] #[.pointer (some ⟨b4, 0, none⟩), .pointer (some ⟨b3, 0, none⟩)]] W (FoOut S0 (.mk op' f.n f.is (f.ks.map g)) W) := by
 have hsz := f.size_eq
 have hkl := Fo.sizes_len f.ks
 obtain ⟨op, nn, is, ks⟩ := f
 simp only [Fo.op, Fo.n, Fo.is, Fo.ks] at *
 obtain ⟨⟨hE2, hL2⟩, hK⟩ := hT.parts
 obtain ⟨a2, c2, rfl⟩ := hE2.shape
 obtain ⟨a3, c3, rfl⟩ := FSl.shape hK
 obtain ⟨W2, hW2⟩ : ∃ W2, W2 = (W.alloc (.cells #[.int .i64 op, .int .i64 nn, .slice a2 is.length c2, .slice a3 ks.length c3] 29)).alloc (.cells #[.int .i64 0, .int .i64 0, .slice none 0 0, .slice none 0 0] 29) := ⟨_, rfl⟩
 have hB2 : Below W.heap.size W W2 := by rw [hW2]; exact ((Below.refl _ _).alloc (Nat.le_refl _) _).alloc (by simp) _
 have hX2 : BoxL W.heap.size [.int .i64 op, .int .i64 nn, .slice a2 is.length c2, .slice a3 ks.length c3] W2 := by rw [hW2]; exact (BoxL.made W _ _).under _
 have hR2 : BoxL (W.heap.size + 1) [.int .i64 0, .int .i64 0, .slice none 0 0, .slice none 0 0] W2 := by
  rw [hW2]
  have := BoxL.made (W.alloc (.cells #[.int .i64 op, .int .i64 nn, .slice a2 is.length c2, .slice a3 ks.length c3] 29)) #[.int .i64 0, .int .i64 0, .slice none 0 0, .slice none 0 0] 29
  rwa [World.size_alloc] at this
 have hz2 : W2.heap.size = W.heap.size + 2 := by rw [hW2, World.size_alloc, World.size_alloc]
 have hBs : ∀ w, Since W2 w → Below W.heap.size W w := fun w h => hB2.trans (Below.mono h hB2.size)
 have HBS := Lib.hid hBs
 have KC := Lib.hid fun (w : World) (h : Since W2 w) => cloIv_any (.slice a2 is.length c2) is w ((hE2.low (hL2.low hS0) (hBs w h)).rfl') (by omega)
 have HKD := Lib.hid fun (j : Nat) (hj : j < ks.length) => kid_at hK hj
 have HS0 := Lib.hid hS0
 have HHK := Lib.hid HK
 have HX2 := Lib.hid hX2
 have HR2 := Lib.hid hR2
 have HZ2 := Lib.hid hz2
 have hn6 : ks.length ≤ 1000000 := by omega
 obtain ⟨c0, c1, c2a, c3a, -, -, -, -, hlt⟩ := hX2.all4
 clear hX2 hR2 hB2 hBs hE2 hL2 hK hT HK hS0 hsz hkl hf hil hz2
 generalize hnk : ks.length = n3 at *
 have HNK := Lib.hid hnk
 clear hnk
 generalize is.length = n2 at *
 go_enter Tryz.func119, Tryz.ntmps119
 go_upto_region 1 with (fail)
 rw [← hW2]
 clear hW2
 go_cut [7] (fun s wx => CutF S0 W W2 op' nn is s wx)
 case first =>
  have hs_W2 : Since W2 W2 := since_r _
  refine wp_region_noPanic ?_
  refine wp_region_held_drew (S := fun w' => w'.cell? ⟨W.heap.size, 1, none⟩ = some (.int .i64 nn) ∧ w'.cell? ⟨W.heap.size, 2, none⟩ = some (.slice a2 n2 c2) ∧ Since W2 w') (by kernel_rfl) ⟨c1, c2a, since_d (since_r _)⟩ (fun hHeld => ?_)
  refine wpAnyH_take (i := 0) (oi := ⟨some 10, Op.move (Operand.tmp 1), 3, _, _, none⟩) (v := ?_) rfl (by kernel_rfl) (by kernel_rfl) (by kernel_rfl) (fun _ _ _ h => h) (Or.inl ⟨by rfl, ?_⟩) (by assumption) ?_
  rotate_left 1
  ·(intro w hSw; (try dsimp only at hSw); go_simp; first | done | with_reducible rfl)
  try simp only [Act.put, List.setIfInBounds_toArray, List.set_cons_zero, List.set_cons_succ]
  refine wpAnyH_take (i := 1) (oi := ⟨some 11, Op.fieldAddr 29 (Operand.tmp 3) 1, 0, _, _, none⟩) (v := ?_) rfl (by kernel_rfl) (by kernel_rfl) (by kernel_rfl) (fun _ _ _ h => h) (Or.inl ⟨by rfl, ?_⟩) (by assumption) ?_
  rotate_left 1
  ·(intro w hSw; (try dsimp only at hSw); go_simp; first | done | with_reducible rfl)
  try simp only [Act.put, List.setIfInBounds_toArray, List.set_cons_zero, List.set_cons_succ]
  refine wpAnyH_take (i := 2) (oi := ⟨some 12, Op.load 3 (Operand.tmp 11), 3, _, _, none⟩) (v := ?_) rfl (by kernel_rfl) (by kernel_rfl) (by kernel_rfl) (fun _ _ _ h => h) (Or.inl ⟨by rfl, ?_⟩) (by assumption) ?_
  rotate_left 1
  ·(intro w hSw; (try dsimp only at hSw); go_simp; first | done | with_reducible rfl)
  try simp only [Act.put, List.setIfInBounds_toArray, List.set_cons_zero, List.set_cons_succ]
  refine wpAnyH_take (i := 3) (oi := ⟨some 13, Op.fieldAddr 29 (Operand.tmp 3) 2, 0, _, _, none⟩) (v := ?_) rfl (by kernel_rfl) (by kernel_rfl) (by kernel_rfl) (fun _ _ _ h => h) (Or.inl ⟨by rfl, ?_⟩) (by assumption) ?_
  rotate_left 1
  ·(intro w hSw; (try dsimp only at hSw); go_simp; first | done | with_reducible rfl)
  try simp only [Act.put, List.setIfInBounds_toArray, List.set_cons_zero, List.set_cons_succ]
  refine wpAnyH_take (i := 4) (oi := ⟨some 14, Op.load 27 (Operand.tmp 13), 27, _, _, none⟩) (v := ?_) rfl (by kernel_rfl) (by kernel_rfl) (by kernel_rfl) (fun _ _ _ h => h) (Or.inl ⟨by rfl, ?_⟩) (by assumption) ?_
  rotate_left 1
  ·(intro w hSw; (try dsimp only at hSw); go_simp; first | done | with_reducible rfl)
  try simp only [Act.put, List.setIfInBounds_toArray, List.set_cons_zero, List.set_cons_succ]
  refine wpAnyH_ready (rs := [5, 7]) (by kernel_rfl) (by simp) ?_
  refine AllReadyH.cons (o := ⟨some 15, Op.call { callee := Callee.value (Operand.func 166), args := #[Operand.tmp 14], argTypes := #[27] }, 27, _, _, none⟩) rfl (fun K hK => ?_) (AllReadyH.cons (o := ⟨some 7, Op.alloc 29, 0, _, _, none⟩) rfl (fun K hK => ?_) AllReadyH.nil)
  ·go_simp
   refine (KC.out _ (by first | exact hs_W2 | exact since_d hs_W2)).mono ?_
   rintro e v1 ⟨b1, m1, d1, rfl, hOh, hBh⟩
   have hp : Since W2 v1 := (by first | exact hBh.out | exact Since.step (since_d (since_r _)) hBh.out)
   have hs_v1 : Since W2 v1 := Since.step hs_W2 hp
   have hA1 : ∀ g, (.slice b1 m1 d1 : Value).ownBlock = some g → (World.heap W2).size ≤ g ∧ g < (World.heap v1).size := fun g e => hOh.out.lt g e
   have hO1 := hOh.out.base (B' := W2.heap.size) (show W2.heap.size ≤ (World.heap W2).size from Below.size hs_W2)
   have hz_v1 : (World.heap W2).size ≤ (World.heap v1).size := Below.size hp
   clear hOh hBh
   try go_wp2_with fail
   refine hK.out _ _ ?_ (fun hHeld => ?_)
   ·(with_reducible refine ⟨Since.cell ?_ c1, Since.cell ?_ c2a, ?_⟩) <;> (repeat (first | with_reducible assumption | with_reducible exact since_r _ | with_reducible refine Since.alloc ?_ _ | with_reducible refine since_d ?_))
   clear hK K
   try simp only [Act.put, List.setIfInBounds_toArray, List.set_cons_zero, List.set_cons_succ]
   refine wpAnyH_take (i := 6) (oi := ⟨some 16, Op.build 29 #[(0, Operand.tmp 10), (1, Operand.tmp 12), (2, Operand.tmp 15)], 29, _, _, none⟩) (v := ?_) rfl (by kernel_rfl) (by kernel_rfl) (by kernel_rfl) (fun _ _ _ h => h) (Or.inl ⟨by rfl, ?_⟩) (by assumption) ?_
   rotate_left 1
   ·(intro w hSw; (try dsimp only at hSw); go_simp; first | done | with_reducible rfl)
   try simp only [Act.put, List.setIfInBounds_toArray, List.set_cons_zero, List.set_cons_succ]
   refine wpAnyH_ready (rs := [7]) (by kernel_rfl) (by simp) ?_
   refine AllReadyH.cons (o := ⟨some 7, Op.alloc 29, 0, _, _, none⟩) rfl (fun K hK => ?_) AllReadyH.nil
   go_simp
   try go_wp2_with fail
   refine hK.out _ _ ?_ (fun hHeld => ?_)
   ·(with_reducible refine ⟨Since.cell ?_ c1, Since.cell ?_ c2a, ?_⟩) <;> (repeat (first | with_reducible assumption | with_reducible exact since_r _ | with_reducible refine Since.alloc ?_ _ | with_reducible refine since_d ?_))
   clear hK K
   try simp only [Act.put, List.setIfInBounds_toArray, List.set_cons_zero, List.set_cons_succ]
   obtain ⟨z, hz⟩ : ∃ v, v = World.alloc v1 (.cells #[.int .i64 0, .int .i64 0, .slice none 0 0, .slice none 0 0] 29) := ⟨_, rfl⟩
   obtain ⟨u, hu⟩ : ∃ v, v = World.alloc (World.drew v1) (.cells #[.int .i64 0, .int .i64 0, .slice none 0 0, .slice none 0 0] 29) := ⟨_, rfl⟩
   have hzX : BoxL (World.heap v1).size [.int .i64 0, .int .i64 0, .slice none 0 0, .slice none 0 0] z ∧ Since v1 z := by rw [hz]; exact ⟨BoxL.made v1 _ _, Since.alloc (since_r _) _⟩
   have huX : BoxL (World.heap v1).size [.int .i64 0, .int .i64 0, .slice none 0 0, .slice none 0 0] u ∧ Since v1 u := by rw [hu]; exact ⟨BoxL.made (World.drew v1) _ _, Since.alloc (since_d (since_r _)) _⟩
   first | (rw [← hz]; clear hu huX u; have hX := hzX; clear hzX hz; generalize z = y1 at *) | (rw [← hu]; clear hz hzX z; have hX := huX; clear huX hu; generalize u = y1 at *)
   have hp := hX.2
   have hX := hX.1
   have hs_y1 : Since W2 y1 := Since.step hs_v1 hp
   have hNH : (World.heap v1).size < (World.heap y1).size := hX.1
   have hO1 := hO1.below hp
   clear hp
   generalize hNN : (World.heap v1).size = NB at hX hNH ⊢
   have hNL : W2.heap.size ≤ NB := by rw [← hNN]; exact Below.size hs_v1
   obtain ⟨z0, z1, z2, z3, zf0, zf1, zf2, zf3, -⟩ := hX.all4
   refine wpAnyH_ready (rs := [8]) (by kernel_rfl) (by simp) ?_
   refine AllReadyH.cons (o := ⟨none, Op.store 29 (Operand.tmp 7) (Operand.tmp 16), 0, _, _, none⟩) rfl (fun K hK => ?_) AllReadyH.nil
   go_simp
   go_wp2_with fail
   have hs9 : Since W2 (put4 y1 NB (.int .i64 op') (.int .i64 nn) (.slice b1 m1 d1) (.slice none 0 0)) := put4_below hs_y1 hNL _ _ _ _
   unfold put4 at hs9
   refine hK.out _ _ ?_ (fun hHeld => ?_)
   ·(with_reducible refine ⟨Since.cell ?_ c1, Since.cell ?_ c2a, ?_⟩) <;> (repeat (first | with_reducible assumption | with_reducible exact since_r _ | with_reducible refine Since.alloc ?_ _ | with_reducible refine since_d ?_))
   clear hK K
   try simp only [Act.put, List.setIfInBounds_toArray, List.set_cons_zero, List.set_cons_succ]
   refine wpAnyH_done (by kernel_rfl) ?_ _
   refine NoPanic.normal ?_
   go_wp2_with fail
   go_meet
   have HOB := OF.made (S := fun k => (S0 k ∧ k < W.heap.size) ∨ W2.heap.size ≤ k) hX hNL hO1 (fun e => by have := hA1 _ e; omega) op' nn
   unfold put4 at HOB
   exact ⟨_, _, _, _, rfl, Lib.hid HOB, Lib.hid hs9⟩
  ·go_simp
   try go_wp2_with fail
   refine hK.out _ _ ?_ (fun hHeld => ?_)
   ·(with_reducible refine ⟨Since.cell ?_ c1, Since.cell ?_ c2a, ?_⟩) <;> (repeat (first | with_reducible assumption | with_reducible exact since_r _ | with_reducible refine Since.alloc ?_ _ | with_reducible refine since_d ?_))
   clear hK K
   try simp only [Act.put, List.setIfInBounds_toArray, List.set_cons_zero, List.set_cons_succ]
   obtain ⟨z, hz⟩ : ∃ v, v = World.alloc W2 (.cells #[.int .i64 0, .int .i64 0, .slice none 0 0, .slice none 0 0] 29) := ⟨_, rfl⟩
   obtain ⟨u, hu⟩ : ∃ v, v = World.alloc (World.drew W2) (.cells #[.int .i64 0, .int .i64 0, .slice none 0 0, .slice none 0 0] 29) := ⟨_, rfl⟩
   have hzX : BoxL (World.heap W2).size [.int .i64 0, .int .i64 0, .slice none 0 0, .slice none 0 0] z ∧ Since W2 z := by rw [hz]; exact ⟨BoxL.made W2 _ _, Since.alloc (since_r _) _⟩
   have huX : BoxL (World.heap W2).size [.int .i64 0, .int .i64 0, .slice none 0 0, .slice none 0 0] u ∧ Since W2 u := by rw [hu]; exact ⟨BoxL.made (World.drew W2) _ _, Since.alloc (since_d (since_r _)) _⟩
   first | (rw [← hz]; clear hu huX u; have hX := hzX; clear hzX hz; generalize z = y1 at *) | (rw [← hu]; clear hz hzX z; have hX := huX; clear huX hu; generalize u = y1 at *)
   have hp := hX.2
   have hX := hX.1
   have hs_y1 : Since W2 y1 := Since.step hs_W2 hp
   have hNH : (World.heap W2).size < (World.heap y1).size := hX.1
   clear hp
   generalize hNN : (World.heap W2).size = NB at hX hNH ⊢
   have hNL : W2.heap.size ≤ NB := by rw [← hNN]; exact Nat.le_refl _
   refine wpAnyH_ready (rs := [5]) (by kernel_rfl) (by simp) ?_
   refine AllReadyH.cons (o := ⟨some 15, Op.call { callee := Callee.value (Operand.func 166), args := #[Operand.tmp 14], argTypes := #[27] }, 27, _, _, none⟩) rfl (fun K hK => ?_) AllReadyH.nil
   go_simp
   refine (KC.out _ (by first | exact hs_y1 | exact since_d hs_y1)).mono ?_
   rintro e v1 ⟨b1, m1, d1, rfl, hOh, hBh⟩
   have hp : Since y1 v1 := (by first | exact hBh.out | exact Since.step (since_d (since_r _)) hBh.out)
   have hs_v1 : Since W2 v1 := Since.step hs_y1 hp
   have hA1 : ∀ g, (.slice b1 m1 d1 : Value).ownBlock = some g → (World.heap y1).size ≤ g ∧ g < (World.heap v1).size := fun g e => hOh.out.lt g e
   have hO1 := hOh.out.base (B' := W2.heap.size) (show W2.heap.size ≤ (World.heap y1).size from Below.size hs_y1)
   have hz_v1 : (World.heap y1).size ≤ (World.heap v1).size := Below.size hp
   clear hOh hBh
   try go_wp2_with fail
   refine hK.out _ _ ?_ (fun hHeld => ?_)
   ·(with_reducible refine ⟨Since.cell ?_ c1, Since.cell ?_ c2a, ?_⟩) <;> (repeat (first | with_reducible assumption | with_reducible exact since_r _ | with_reducible refine Since.alloc ?_ _ | with_reducible refine since_d ?_))
   clear hK K
   try simp only [Act.put, List.setIfInBounds_toArray, List.set_cons_zero, List.set_cons_succ]
   have hX := hX.keep hp
   clear hp
   refine wpAnyH_take (i := 6) (oi := ⟨some 16, Op.build 29 #[(0, Operand.tmp 10), (1, Operand.tmp 12), (2, Operand.tmp 15)], 29, _, _, none⟩) (v := ?_) rfl (by kernel_rfl) (by kernel_rfl) (by kernel_rfl) (fun _ _ _ h => h) (Or.inl ⟨by rfl, ?_⟩) (by assumption) ?_
   rotate_left 1
   ·(intro w hSw; (try dsimp only at hSw); go_simp; first | done | with_reducible rfl)
   try simp only [Act.put, List.setIfInBounds_toArray, List.set_cons_zero, List.set_cons_succ]
   obtain ⟨z0, z1, z2, z3, zf0, zf1, zf2, zf3, -⟩ := hX.all4
   refine wpAnyH_ready (rs := [8]) (by kernel_rfl) (by simp) ?_
   refine AllReadyH.cons (o := ⟨none, Op.store 29 (Operand.tmp 7) (Operand.tmp 16), 0, _, _, none⟩) rfl (fun K hK => ?_) AllReadyH.nil
   go_simp
   go_wp2_with fail
   have hs9 : Since W2 (put4 v1 NB (.int .i64 op') (.int .i64 nn) (.slice b1 m1 d1) (.slice none 0 0)) := put4_below hs_v1 hNL _ _ _ _
   unfold put4 at hs9
   refine hK.out _ _ ?_ (fun hHeld => ?_)
   ·(with_reducible refine ⟨Since.cell ?_ c1, Since.cell ?_ c2a, ?_⟩) <;> (repeat (first | with_reducible assumption | with_reducible exact since_r _ | with_reducible refine Since.alloc ?_ _ | with_reducible refine since_d ?_))
   clear hK K
   try simp only [Act.put, List.setIfInBounds_toArray, List.set_cons_zero, List.set_cons_succ]
   refine wpAnyH_done (by kernel_rfl) ?_ _
   refine NoPanic.normal ?_
   go_wp2_with fail
   go_meet
   have HOB := OF.made (S := fun k => (S0 k ∧ k < W.heap.size) ∨ W2.heap.size ≤ k) hX hNL hO1 (fun e => by have := hA1 _ e; omega) op' nn
   unfold put4 at HOB
   exact ⟨_, _, _, _, rfl, Lib.hid HOB, Lib.hid hs9⟩
 case rest =>
 obtain ⟨M, b1, m1, d1, rfl, hO, hS⟩ := hcut
 rename World => wo
 have HO := Lib.hid hO.out
 have HS := Lib.hid hS.out
 obtain ⟨q0, q1, q2, q3, -⟩ := (HX2.out.keep hS.out).open4
 clear hO hS c0 c1 c2a c3a KC
 go_wp2
 go_loopw [20] (fun v wr => ∃ (k : Nat) (ak : Option Addr) (lk ck : Nat) (rs : List Fr), k ≤ n3 ∧ v = .int .i64 k ∧ Hid (OF (fun k => (S0 k ∧ k < W.heap.size) ∨ W2.heap.size ≤ k) W2.heap.size M wr op' nn (.slice b1 m1 d1) (.slice ak lk ck) is rs ((ks.take k).map g)) ∧ Hid (Since W2 wr)) (fun v _ => n3 - (intOf v).toNat)
 case atStart => exact ⟨0, none, 0, 0, [], by omega, rfl, HO, HS⟩
 case round =>
  obtain ⟨k, ak, lk, ck, rs, hk, rfl, hO, hS⟩ := hrel
  clear HO HS
  by_cases hlt2 : k < n3
  ·have j1 : (k : Int) < n3 := by omega
   obtain ⟨g3, u, ua, um, ud, va, vm, vd, rfl, hSg, hg3, hcap, hu, u0, u1, u2, u3, hFu⟩ := HKD.out k hlt2
   have hBw := HBS.out wr hS.out
   have r0 : wr.cell? ⟨g3, k * 4, none⟩ = some (.int .i64 u.op) := (hBw.cell (p := ⟨g3, k * 4, none⟩) hg3).trans u0
   have r1 : wr.cell? ⟨g3, k * 4 + 1, none⟩ = some (.int .i64 u.n) := (hBw.cell (p := ⟨g3, k * 4 + 1, none⟩) hg3).trans u1
   have r2 : wr.cell? ⟨g3, k * 4 + 2, none⟩ = some (.slice ua um ud) := (hBw.cell (p := ⟨g3, k * 4 + 2, none⟩) hg3).trans u2
   have r3 : wr.cell? ⟨g3, k * 4 + 3, none⟩ = some (.slice va vm vd) := (hBw.cell (p := ⟨g3, k * 4 + 3, none⟩) hg3).trans u3
   obtain ⟨wx, hwx⟩ : ∃ wx, wx = wr.alloc (.cells #[.int .i64 u.op, .int .i64 u.n, .slice ua um ud, .slice va vm vd] 29) := ⟨_, rfl⟩
   have hSx : Since wr wx := by rw [hwx]; exact Since.alloc (since_r _) _
   have hX5 : BoxL wr.heap.size [.int .i64 u.op, .int .i64 u.n, .slice ua um ud, .slice va vm vd] wx := by rw [hwx]; exact BoxL.made wr _ _
   have HOX := Lib.hid (hO.out.frame hSx)
   have HSX := Lib.hid (Since.step hS.out hSx)
   have hSWV : ∀ V, Since wx V → Since W V := fun V hV => HBS.out V (Since.step HSX.out hV)
   have KQ := Lib.hid fun (V : World) (hV : Since wx V) => HHK.out u (List.mem_of_getElem? hu) (.slice ua um ud) (.slice va vm vd) V (hSWV V hV) (FS.mono (fun k h => h.1) _ (FS.keep (S' := fun k => S0 k ∧ k < W.heap.size) ⟨(hSWV V hV).size, fun b hb _ => (hSWV V hV).block b (HS0.out b hb)⟩ (fun b hl hb => ⟨hb, hl⟩) u hFu))
   have HSTEP : Hid ((ks.take (k + 1)).map g = (ks.take k).map g ++ [g u]) := Lib.hid (by rw [List.take_add_one, hu, List.map_append]; rfl)
   have hlr : rs.length + 1 ≤ 1000000000 := by have := hO.out.lie.1; rw [List.length_map, List.length_take] at this; omega
   have hSB : ∀ k, W2.heap.size ≤ k → (S0 k ∧ k < W.heap.size) ∨ W2.heap.size ≤ k := fun k h => .inr h
   have hS1 : ∀ k, (S0 k ∧ k < W.heap.size) → ((S0 k ∧ k < W.heap.size) ∨ W2.heap.size ≤ k) ∧ k < W2.heap.size := fun k h => ⟨.inl h, by have := HZ2.out; have := h.2; omega⟩
   have i2 : IntKind.i64.wrap ((k : Int) + 1) = ((k + 1 : Nat) : Int) := by rw [IntWalk.i64_in _ (by omega)]; omega
   clear hSWV hu hFu u0 u1 u2 u3 hBw
   go_upto_region 5 with (fail)
   rw [← hwx]
   clear hwx hSx r0 r1 r2 r3
   obtain ⟨o0, o1, o2, o3, -⟩ := hX5.open4
   obtain ⟨x0, x1, x2, x3, f0, f1, f2, f3, -⟩ := HOX.out.box.all4
   refine wp_region_noPanic ?_
   refine wp_region_held_drew (S := fun _ => True) (by kernel_rfl) (by trivial) (fun hHeld => ?_)
   refine wpAnyH_take (i := 0) (oi := ⟨some 24, Op.fieldAddr 29 (Operand.tmp 7) 3, 0, _, _, none⟩) (v := ?_) rfl (by kernel_rfl) (by kernel_rfl) (by kernel_rfl) (fun _ _ _ h => h) (Or.inl ⟨by rfl, ?_⟩) (by assumption) ?_
   rotate_left 1
   ·(intro w hSw; (try dsimp only at hSw); go_simp; first | done | with_reducible rfl)
   try simp only [Act.put, List.setIfInBounds_toArray, List.set_cons_zero, List.set_cons_succ]
   refine wpAnyH_take (i := 2) (oi := { dst := some 26, op := Op.move (Operand.tmp 2), type := 67, pos := _, after := #[], guard := none }) (v := ?_) rfl (by kernel_rfl) (by kernel_rfl) (by kernel_rfl) (fun _ _ _ h => h) (Or.inl ⟨by rfl, ?_⟩) (by assumption) ?_
   rotate_left 1
   ·(intro w hSw; (try dsimp only at hSw); go_simp; first | done | with_reducible rfl)
   try simp only [Act.put, List.setIfInBounds_toArray, List.set_cons_zero, List.set_cons_succ]
   refine wpAnyH_ready (rs := [1, 3]) (by kernel_rfl) (by simp) ?_
   refine AllReadyH.cons (o := ⟨some 25, Op.load 23 (Operand.tmp 24), 23, _, _, none⟩) rfl (fun K hK => ?_) (AllReadyH.cons (o := ⟨some 27, Op.load 29 (Operand.tmp 9), 29, _, _, none⟩) rfl (fun K hK => ?_) AllReadyH.nil)
   ·go_simp
    try go_wp2_with fail
    refine hK.out _ _ ?_ (fun hHeld => ?_)
    ·trivial
    clear hK K
    try simp only [Act.put, List.setIfInBounds_toArray, List.set_cons_zero, List.set_cons_succ]
    refine wpAnyH_ready (rs := [3]) (by kernel_rfl) (by simp) ?_
    refine AllReadyH.cons (o := ⟨some 27, Op.load 29 (Operand.tmp 9), 29, _, _, none⟩) rfl (fun K hK => ?_) AllReadyH.nil
    go_simp
    try go_wp2_with fail
    refine hK.out _ _ ?_ (fun hHeld => ?_)
    ·trivial
    clear hK K
    try simp only [Act.put, List.setIfInBounds_toArray, List.set_cons_zero, List.set_cons_succ]
    refine wpAnyH_ready (rs := [4]) (by kernel_rfl) (by simp) ?_
    refine AllReadyH.cons (o := ⟨some 28, Op.call { callee := Callee.value (Operand.tmp 26), args := #[Operand.tmp 27], argTypes := #[29] }, 29, _, _, none⟩) rfl (fun K hK => ?_) AllReadyH.nil
    go_simp
    refine (KQ.out _ (by first | exact since_r _ | exact since_d (since_r _))).mono ?_
    rintro e v9 ⟨⟨fop, fn, fa2, fn2, fc2, fa3, fn3, fc3⟩, rfl, hT9, hB9⟩
    try simp only
    have hS9 : Since wx v9 := (by first | exact hB9.out | exact Since.step (since_d (since_r _)) hB9.out)
    have hkid := OF.kid0 (S1 := fun k => S0 k ∧ k < W.heap.size) (t := g u) (r := ⟨fop, fn, fa2, fn2, fc2, fa3, fn3, fc3⟩) HOX.out hS9 hSB hS1 (by exact hT9.out) (.cells #[.int .i64 fop, .int .i64 fn, .slice fa2 fn2 fc2, .slice fa3 fn3 fc3] 29)
    have HO9 := Lib.hid hkid.1
    have HL9 := Lib.hid hkid.2
    have HS9 := Lib.hid (Since.alloc hS9 (.cells #[.int .i64 fop, .int .i64 fn, .slice fa2 fn2 fc2, .slice fa3 fn3 fc3] 29))
    have HCL := Lib.hid (one_cells RFo v9 ⟨fop, fn, fa2, fn2, fc2, fa3, fn3, fc3⟩ #[.int .i64 fop, .int .i64 fn, .slice fa2 fn2 fc2, .slice fa3 fn3 fc3] 29 rfl)
    have hzB : W2.heap.size ≤ (v9.alloc (.cells #[.int .i64 fop, .int .i64 fn, .slice fa2 fn2 fc2, .slice fa3 fn3 fc3] 29)).heap.size := by have := HO9.out.box.1; have := HO9.out.hB; omega
    obtain ⟨t0, t1, t2, t3, -, -, -, ht3, -⟩ := (HOX.out.frame hS9).box.all4
    obtain ⟨s0, s1, s2, s3, -, -, -, hs3, -⟩ := HO9.out.box.all4
    clear hT9 hB9 hkid
    try go_wp2_with fail
    refine hK.out _ _ ?_ (fun hHeld => ?_)
    ·trivial
    clear hK K
    try simp only [Act.put, List.setIfInBounds_toArray, List.set_cons_zero, List.set_cons_succ]
    refine wpAnyH_ready (rs := [5]) (by kernel_rfl) (by simp) ?_
    refine AllReadyH.cons (o := ⟨some 29, Op.buildSlice 23 1 #[(0, Operand.tmp 28)], 23, _, _, none⟩) rfl (fun K hK => ?_) AllReadyH.nil
    go_simp
    try go_wp2_with fail
    refine hK.out _ _ ?_ (fun hHeld => ?_)
    ·trivial
    clear hK K
    try simp only [Act.put, List.setIfInBounds_toArray, List.set_cons_zero, List.set_cons_succ]
    refine wpAnyH_ready (rs := [6]) (by kernel_rfl) (by simp) ?_
    refine AllReadyH.cons (o := ⟨some 30, Op.call { callee := Callee.builtin Builtin.append, args := #[Operand.tmp 25, Operand.tmp 29], argTypes := #[23, 23] }, 23, _, _, none⟩) rfl (fun K hK => ?_) AllReadyH.nil
    refine wp_row1_f (.tmp 25) (.tmp 29) 23 rfl RFo 29 64 _ Tryz.underlying23 Tryz.infoFo rfl (by decide) W2.heap.size (.slice ak lk ck) rs [⟨fop, fn, fa2, fn2, fc2, fa3, fn3, fc3⟩] v9.heap.size 1 1 rfl rfl rfl HCL.out HO9.out.ok hzB hlr ?_
    intro aq lq cq wn hnn hOn hBn hPn
    obtain ⟨y0, y1, y2, y3, g0, g1, g2, g3, -⟩ := (HO9.out.thereK hPn.out).all4
    refine hK.out _ _ ?_ (fun hHeld => ?_)
    ·trivial
    clear hK K
    try simp only [Act.put, List.setIfInBounds_toArray, List.set_cons_zero, List.set_cons_succ]
    refine wpAnyH_take (i := 7) (oi := ⟨some 31, Op.fieldAddr 29 (Operand.tmp 7) 3, 0, _, _, none⟩) (v := ?_) rfl (by kernel_rfl) (by kernel_rfl) (by kernel_rfl) (fun _ _ _ h => h) (Or.inl ⟨by rfl, ?_⟩) (by assumption) ?_
    rotate_left 1
    ·(intro w hSw; (try dsimp only at hSw); go_simp; first | done | with_reducible rfl)
    try simp only [Act.put, List.setIfInBounds_toArray, List.set_cons_zero, List.set_cons_succ]
    refine wpAnyH_ready (rs := [8]) (by kernel_rfl) (by simp) ?_
    refine AllReadyH.cons (o := ⟨none, Op.store 23 (Operand.tmp 31) (Operand.tmp 30), 0, _, _, none⟩) rfl (fun K hK => ?_) AllReadyH.nil
    go_simp
    go_wp2_with fail
    refine hK.out _ _ ?_ (fun hHeld => ?_)
    ·trivial
    clear hK K
    try simp only [Act.put, List.setIfInBounds_toArray, List.set_cons_zero, List.set_cons_succ]
    refine wpAnyH_done (by kernel_rfl) ?_ _
    refine NoPanic.normal ?_
    have hO7 := HO9.out.setK hPn.out hOn.out HL9.out
    have HO7 : Hid (OF (fun k => (S0 k ∧ k < W.heap.size) ∨ W2.heap.size ≤ k) W2.heap.size M (wn.setCell ⟨M, 3, none⟩ (.slice aq lq cq)) op' nn (.slice b1 m1 d1) (.slice aq lq cq) is (rs ++ [⟨fop, fn, fa2, fn2, fc2, fa3, fn3, fc3⟩]) ((ks.take (k + 1)).map g)) := Lib.hid (by rw [HSTEP.out]; exact hO7)
    have HS7 : Hid (Since W2 (wn.setCell ⟨M, 3, none⟩ (.slice aq lq cq))) := Lib.hid ((Below.trans (Since.step HSX.out HS9.out) hBn.out).setCell (p := ⟨M, 3, none⟩) HO9.out.hB _)
    go_wp2
    go_roundw
    case rel => exact ⟨k + 1, aq, lq, cq, _, by omega, by go_num, HO7, HS7⟩
    case measure => simp [intOf] <;> omega
   ·go_simp
    try go_wp2_with fail
    refine hK.out _ _ ?_ (fun hHeld => ?_)
    ·trivial
    clear hK K
    try simp only [Act.put, List.setIfInBounds_toArray, List.set_cons_zero, List.set_cons_succ]
    refine wpAnyH_ready (rs := [1, 4]) (by kernel_rfl) (by simp) ?_
    refine AllReadyH.cons (o := ⟨some 25, Op.load 23 (Operand.tmp 24), 23, _, _, none⟩) rfl (fun K hK => ?_) (AllReadyH.cons (o := ⟨some 28, Op.call { callee := Callee.value (Operand.tmp 26), args := #[Operand.tmp 27], argTypes := #[29] }, 29, _, _, none⟩) rfl (fun K hK => ?_) AllReadyH.nil)
    ·go_simp
     try go_wp2_with fail
     refine hK.out _ _ ?_ (fun hHeld => ?_)
     ·trivial
     clear hK K
     try simp only [Act.put, List.setIfInBounds_toArray, List.set_cons_zero, List.set_cons_succ]
     refine wpAnyH_ready (rs := [4]) (by kernel_rfl) (by simp) ?_
     refine AllReadyH.cons (o := ⟨some 28, Op.call { callee := Callee.value (Operand.tmp 26), args := #[Operand.tmp 27], argTypes := #[29] }, 29, _, _, none⟩) rfl (fun K hK => ?_) AllReadyH.nil
     go_simp
     refine (KQ.out _ (by first | exact since_r _ | exact since_d (since_r _))).mono ?_
     rintro e v9 ⟨⟨fop, fn, fa2, fn2, fc2, fa3, fn3, fc3⟩, rfl, hT9, hB9⟩
     try simp only
     have hS9 : Since wx v9 := (by first | exact hB9.out | exact Since.step (since_d (since_r _)) hB9.out)
     have hkid := OF.kid0 (S1 := fun k => S0 k ∧ k < W.heap.size) (t := g u) (r := ⟨fop, fn, fa2, fn2, fc2, fa3, fn3, fc3⟩) HOX.out hS9 hSB hS1 (by exact hT9.out) (.cells #[.int .i64 fop, .int .i64 fn, .slice fa2 fn2 fc2, .slice fa3 fn3 fc3] 29)
     have HO9 := Lib.hid hkid.1
     have HL9 := Lib.hid hkid.2
     have HS9 := Lib.hid (Since.alloc hS9 (.cells #[.int .i64 fop, .int .i64 fn, .slice fa2 fn2 fc2, .slice fa3 fn3 fc3] 29))
     have HCL := Lib.hid (one_cells RFo v9 ⟨fop, fn, fa2, fn2, fc2, fa3, fn3, fc3⟩ #[.int .i64 fop, .int .i64 fn, .slice fa2 fn2 fc2, .slice fa3 fn3 fc3] 29 rfl)
     have hzB : W2.heap.size ≤ (v9.alloc (.cells #[.int .i64 fop, .int .i64 fn, .slice fa2 fn2 fc2, .slice fa3 fn3 fc3] 29)).heap.size := by have := HO9.out.box.1; have := HO9.out.hB; omega
     obtain ⟨t0, t1, t2, t3, -, -, -, ht3, -⟩ := (HOX.out.frame hS9).box.all4
     obtain ⟨s0, s1, s2, s3, -, -, -, hs3, -⟩ := HO9.out.box.all4
     clear hT9 hB9 hkid
     try go_wp2_with fail
     refine hK.out _ _ ?_ (fun hHeld => ?_)
     ·trivial
     clear hK K
     try simp only [Act.put, List.setIfInBounds_toArray, List.set_cons_zero, List.set_cons_succ]
     refine wpAnyH_ready (rs := [5]) (by kernel_rfl) (by simp) ?_
     refine AllReadyH.cons (o := ⟨some 29, Op.buildSlice 23 1 #[(0, Operand.tmp 28)], 23, _, _, none⟩) rfl (fun K hK => ?_) AllReadyH.nil
     go_simp
     try go_wp2_with fail
     refine hK.out _ _ ?_ (fun hHeld => ?_)
     ·trivial
     clear hK K
     try simp only [Act.put, List.setIfInBounds_toArray, List.set_cons_zero, List.set_cons_succ]
     refine wpAnyH_ready (rs := [6]) (by kernel_rfl) (by simp) ?_
     refine AllReadyH.cons (o := ⟨some 30, Op.call { callee := Callee.builtin Builtin.append, args := #[Operand.tmp 25, Operand.tmp 29], argTypes := #[23, 23] }, 23, _, _, none⟩) rfl (fun K hK => ?_) AllReadyH.nil
     refine wp_row1_f (.tmp 25) (.tmp 29) 23 rfl RFo 29 64 _ Tryz.underlying23 Tryz.infoFo rfl (by decide) W2.heap.size (.slice ak lk ck) rs [⟨fop, fn, fa2, fn2, fc2, fa3, fn3, fc3⟩] v9.heap.size 1 1 rfl rfl rfl HCL.out HO9.out.ok hzB hlr ?_
     intro aq lq cq wn hnn hOn hBn hPn
     obtain ⟨y0, y1, y2, y3, g0, g1, g2, g3, -⟩ := (HO9.out.thereK hPn.out).all4
     refine hK.out _ _ ?_ (fun hHeld => ?_)
     ·trivial
     clear hK K
     try simp only [Act.put, List.setIfInBounds_toArray, List.set_cons_zero, List.set_cons_succ]
     refine wpAnyH_take (i := 7) (oi := ⟨some 31, Op.fieldAddr 29 (Operand.tmp 7) 3, 0, _, _, none⟩) (v := ?_) rfl (by kernel_rfl) (by kernel_rfl) (by kernel_rfl) (fun _ _ _ h => h) (Or.inl ⟨by rfl, ?_⟩) (by assumption) ?_
     rotate_left 1
     ·(intro w hSw; (try dsimp only at hSw); go_simp; first | done | with_reducible rfl)
     try simp only [Act.put, List.setIfInBounds_toArray, List.set_cons_zero, List.set_cons_succ]
     refine wpAnyH_ready (rs := [8]) (by kernel_rfl) (by simp) ?_
     refine AllReadyH.cons (o := ⟨none, Op.store 23 (Operand.tmp 31) (Operand.tmp 30), 0, _, _, none⟩) rfl (fun K hK => ?_) AllReadyH.nil
     go_simp
     go_wp2_with fail
     refine hK.out _ _ ?_ (fun hHeld => ?_)
     ·trivial
     clear hK K
     try simp only [Act.put, List.setIfInBounds_toArray, List.set_cons_zero, List.set_cons_succ]
     refine wpAnyH_done (by kernel_rfl) ?_ _
     refine NoPanic.normal ?_
     have hO7 := HO9.out.setK hPn.out hOn.out HL9.out
     have HO7 : Hid (OF (fun k => (S0 k ∧ k < W.heap.size) ∨ W2.heap.size ≤ k) W2.heap.size M (wn.setCell ⟨M, 3, none⟩ (.slice aq lq cq)) op' nn (.slice b1 m1 d1) (.slice aq lq cq) is (rs ++ [⟨fop, fn, fa2, fn2, fc2, fa3, fn3, fc3⟩]) ((ks.take (k + 1)).map g)) := Lib.hid (by rw [HSTEP.out]; exact hO7)
     have HS7 : Hid (Since W2 (wn.setCell ⟨M, 3, none⟩ (.slice aq lq cq))) := Lib.hid ((Below.trans (Since.step HSX.out HS9.out) hBn.out).setCell (p := ⟨M, 3, none⟩) HO9.out.hB _)
     go_wp2
     go_roundw
     case rel => exact ⟨k + 1, aq, lq, cq, _, by omega, by go_num, HO7, HS7⟩
     case measure => simp [intOf] <;> omega
    ·go_simp
     refine (KQ.out _ (by first | exact since_r _ | exact since_d (since_r _))).mono ?_
     rintro e v9 ⟨⟨fop, fn, fa2, fn2, fc2, fa3, fn3, fc3⟩, rfl, hT9, hB9⟩
     try simp only
     have hS9 : Since wx v9 := (by first | exact hB9.out | exact Since.step (since_d (since_r _)) hB9.out)
     have hkid := OF.kid0 (S1 := fun k => S0 k ∧ k < W.heap.size) (t := g u) (r := ⟨fop, fn, fa2, fn2, fc2, fa3, fn3, fc3⟩) HOX.out hS9 hSB hS1 (by exact hT9.out) (.cells #[.int .i64 fop, .int .i64 fn, .slice fa2 fn2 fc2, .slice fa3 fn3 fc3] 29)
     have HO9 := Lib.hid hkid.1
     have HL9 := Lib.hid hkid.2
     have HS9 := Lib.hid (Since.alloc hS9 (.cells #[.int .i64 fop, .int .i64 fn, .slice fa2 fn2 fc2, .slice fa3 fn3 fc3] 29))
     have HCL := Lib.hid (one_cells RFo v9 ⟨fop, fn, fa2, fn2, fc2, fa3, fn3, fc3⟩ #[.int .i64 fop, .int .i64 fn, .slice fa2 fn2 fc2, .slice fa3 fn3 fc3] 29 rfl)
     have hzB : W2.heap.size ≤ (v9.alloc (.cells #[.int .i64 fop, .int .i64 fn, .slice fa2 fn2 fc2, .slice fa3 fn3 fc3] 29)).heap.size := by have := HO9.out.box.1; have := HO9.out.hB; omega
     obtain ⟨t0, t1, t2, t3, -, -, -, ht3, -⟩ := (HOX.out.frame hS9).box.all4
     obtain ⟨s0, s1, s2, s3, -, -, -, hs3, -⟩ := HO9.out.box.all4
     clear hT9 hB9 hkid
     try go_wp2_with fail
     refine hK.out _ _ ?_ (fun hHeld => ?_)
     ·trivial
     clear hK K
     try simp only [Act.put, List.setIfInBounds_toArray, List.set_cons_zero, List.set_cons_succ]
     refine wpAnyH_ready (rs := [1, 5]) (by kernel_rfl) (by simp) ?_
     refine AllReadyH.cons (o := ⟨some 25, Op.load 23 (Operand.tmp 24), 23, _, _, none⟩) rfl (fun K hK => ?_) (AllReadyH.cons (o := ⟨some 29, Op.buildSlice 23 1 #[(0, Operand.tmp 28)], 23, _, _, none⟩) rfl (fun K hK => ?_) AllReadyH.nil)
     ·go_simp
      try go_wp2_with fail
      refine hK.out _ _ ?_ (fun hHeld => ?_)
      ·trivial
      clear hK K
      try simp only [Act.put, List.setIfInBounds_toArray, List.set_cons_zero, List.set_cons_succ]
      refine wpAnyH_ready (rs := [5]) (by kernel_rfl) (by simp) ?_
      refine AllReadyH.cons (o := ⟨some 29, Op.buildSlice 23 1 #[(0, Operand.tmp 28)], 23, _, _, none⟩) rfl (fun K hK => ?_) AllReadyH.nil
      go_simp
      try go_wp2_with fail
      refine hK.out _ _ ?_ (fun hHeld => ?_)
      ·trivial
      clear hK K
      try simp only [Act.put, List.setIfInBounds_toArray, List.set_cons_zero, List.set_cons_succ]
      refine wpAnyH_ready (rs := [6]) (by kernel_rfl) (by simp) ?_
      refine AllReadyH.cons (o := ⟨some 30, Op.call { callee := Callee.builtin Builtin.append, args := #[Operand.tmp 25, Operand.tmp 29], argTypes := #[23, 23] }, 23, _, _, none⟩) rfl (fun K hK => ?_) AllReadyH.nil
      refine wp_row1_f (.tmp 25) (.tmp 29) 23 rfl RFo 29 64 _ Tryz.underlying23 Tryz.infoFo rfl (by decide) W2.heap.size (.slice ak lk ck) rs [⟨fop, fn, fa2, fn2, fc2, fa3, fn3, fc3⟩] v9.heap.size 1 1 rfl rfl rfl HCL.out HO9.out.ok hzB hlr ?_
      intro aq lq cq wn hnn hOn hBn hPn
      obtain ⟨y0, y1, y2, y3, g0, g1, g2, g3, -⟩ := (HO9.out.thereK hPn.out).all4
      refine hK.out _ _ ?_ (fun hHeld => ?_)
      ·trivial
      clear hK K
      try simp only [Act.put, List.setIfInBounds_toArray, List.set_cons_zero, List.set_cons_succ]
      refine wpAnyH_take (i := 7) (oi := ⟨some 31, Op.fieldAddr 29 (Operand.tmp 7) 3, 0, _, _, none⟩) (v := ?_) rfl (by kernel_rfl) (by kernel_rfl) (by kernel_rfl) (fun _ _ _ h => h) (Or.inl ⟨by rfl, ?_⟩) (by assumption) ?_
      rotate_left 1
      ·(intro w hSw; (try dsimp only at hSw); go_simp; first | done | with_reducible rfl)
      try simp only [Act.put, List.setIfInBounds_toArray, List.set_cons_zero, List.set_cons_succ]
      refine wpAnyH_ready (rs := [8]) (by kernel_rfl) (by simp) ?_
      refine AllReadyH.cons (o := ⟨none, Op.store 23 (Operand.tmp 31) (Operand.tmp 30), 0, _, _, none⟩) rfl (fun K hK => ?_) AllReadyH.nil
      go_simp
      go_wp2_with fail
      refine hK.out _ _ ?_ (fun hHeld => ?_)
      ·trivial
      clear hK K
      try simp only [Act.put, List.setIfInBounds_toArray, List.set_cons_zero, List.set_cons_succ]
      refine wpAnyH_done (by kernel_rfl) ?_ _
      refine NoPanic.normal ?_
      have hO7 := HO9.out.setK hPn.out hOn.out HL9.out
      have HO7 : Hid (OF (fun k => (S0 k ∧ k < W.heap.size) ∨ W2.heap.size ≤ k) W2.heap.size M (wn.setCell ⟨M, 3, none⟩ (.slice aq lq cq)) op' nn (.slice b1 m1 d1) (.slice aq lq cq) is (rs ++ [⟨fop, fn, fa2, fn2, fc2, fa3, fn3, fc3⟩]) ((ks.take (k + 1)).map g)) := Lib.hid (by rw [HSTEP.out]; exact hO7)
      have HS7 : Hid (Since W2 (wn.setCell ⟨M, 3, none⟩ (.slice aq lq cq))) := Lib.hid ((Below.trans (Since.step HSX.out HS9.out) hBn.out).setCell (p := ⟨M, 3, none⟩) HO9.out.hB _)
      go_wp2
      go_roundw
      case rel => exact ⟨k + 1, aq, lq, cq, _, by omega, by go_num, HO7, HS7⟩
      case measure => simp [intOf] <;> omega
     ·go_simp
      try go_wp2_with fail
      refine hK.out _ _ ?_ (fun hHeld => ?_)
      ·trivial
      clear hK K
      try simp only [Act.put, List.setIfInBounds_toArray, List.set_cons_zero, List.set_cons_succ]
      refine wpAnyH_ready (rs := [1]) (by kernel_rfl) (by simp) ?_
      refine AllReadyH.cons (o := ⟨some 25, Op.load 23 (Operand.tmp 24), 23, _, _, none⟩) rfl (fun K hK => ?_) AllReadyH.nil
      go_simp
      try go_wp2_with fail
      refine hK.out _ _ ?_ (fun hHeld => ?_)
      ·trivial
      clear hK K
      try simp only [Act.put, List.setIfInBounds_toArray, List.set_cons_zero, List.set_cons_succ]
      refine wpAnyH_ready (rs := [6]) (by kernel_rfl) (by simp) ?_
      refine AllReadyH.cons (o := ⟨some 30, Op.call { callee := Callee.builtin Builtin.append, args := #[Operand.tmp 25, Operand.tmp 29], argTypes := #[23, 23] }, 23, _, _, none⟩) rfl (fun K hK => ?_) AllReadyH.nil
      refine wp_row1_f (.tmp 25) (.tmp 29) 23 rfl RFo 29 64 _ Tryz.underlying23 Tryz.infoFo rfl (by decide) W2.heap.size (.slice ak lk ck) rs [⟨fop, fn, fa2, fn2, fc2, fa3, fn3, fc3⟩] v9.heap.size 1 1 rfl rfl rfl HCL.out HO9.out.ok hzB hlr ?_
      intro aq lq cq wn hnn hOn hBn hPn
      obtain ⟨y0, y1, y2, y3, g0, g1, g2, g3, -⟩ := (HO9.out.thereK hPn.out).all4
      refine hK.out _ _ ?_ (fun hHeld => ?_)
      ·trivial
      clear hK K
      try simp only [Act.put, List.setIfInBounds_toArray, List.set_cons_zero, List.set_cons_succ]
      refine wpAnyH_take (i := 7) (oi := ⟨some 31, Op.fieldAddr 29 (Operand.tmp 7) 3, 0, _, _, none⟩) (v := ?_) rfl (by kernel_rfl) (by kernel_rfl) (by kernel_rfl) (fun _ _ _ h => h) (Or.inl ⟨by rfl, ?_⟩) (by assumption) ?_
      rotate_left 1
      ·(intro w hSw; (try dsimp only at hSw); go_simp; first | done | with_reducible rfl)
      try simp only [Act.put, List.setIfInBounds_toArray, List.set_cons_zero, List.set_cons_succ]
      refine wpAnyH_ready (rs := [8]) (by kernel_rfl) (by simp) ?_
      refine AllReadyH.cons (o := ⟨none, Op.store 23 (Operand.tmp 31) (Operand.tmp 30), 0, _, _, none⟩) rfl (fun K hK => ?_) AllReadyH.nil
      go_simp
      go_wp2_with fail
      refine hK.out _ _ ?_ (fun hHeld => ?_)
      ·trivial
      clear hK K
      try simp only [Act.put, List.setIfInBounds_toArray, List.set_cons_zero, List.set_cons_succ]
      refine wpAnyH_done (by kernel_rfl) ?_ _
      refine NoPanic.normal ?_
      have hO7 := HO9.out.setK hPn.out hOn.out HL9.out
      have HO7 : Hid (OF (fun k => (S0 k ∧ k < W.heap.size) ∨ W2.heap.size ≤ k) W2.heap.size M (wn.setCell ⟨M, 3, none⟩ (.slice aq lq cq)) op' nn (.slice b1 m1 d1) (.slice aq lq cq) is (rs ++ [⟨fop, fn, fa2, fn2, fc2, fa3, fn3, fc3⟩]) ((ks.take (k + 1)).map g)) := Lib.hid (by rw [HSTEP.out]; exact hO7)
      have HS7 : Hid (Since W2 (wn.setCell ⟨M, 3, none⟩ (.slice aq lq cq))) := Lib.hid ((Below.trans (Since.step HSX.out HS9.out) hBn.out).setCell (p := ⟨M, 3, none⟩) HO9.out.hB _)
      go_wp2
      go_roundw
      case rel => exact ⟨k + 1, aq, lq, cq, _, by omega, by go_num, HO7, HS7⟩
      case measure => simp [intOf] <;> omega
  ·have j1 : ¬ (k : Int) < n3 := by omega
   have hk1 : ks.take k = ks := List.take_of_length_le (by rw [HNK.out]; omega)
   rw [hk1] at hO
   obtain ⟨x0, x1, x2, x3, f0, f1, f2, f3, -⟩ := hO.out.box.all4
   obtain ⟨z0, z1, z2, z3, zf0, zf1, zf2, zf3, -⟩ := (HR2.out.keep hS.out).all4
   have hfin := put4_end (S0 := S0) (N := W.heap.size + 1) (HBS.out wr hS.out) (by omega) ⟨op', nn, b1, m1, d1, ak, lk, ck⟩ ⟨rfl, rfl, FS.mono (fun q hq => ⟨by
    have := HZ2.out
    rcases hq.1 with h1 | h1
    ·exact .inl h1
    ·exact .inr ⟨by omega, by omega⟩, hq.2⟩) _ (hO.out.done fun k h => .inr h)⟩ _ _ rfl rfl
   have HF := Lib.hid hfin
   unfold put4 at HF
   clear hfin hO hS HHK HKD HBS hk1
   generalize ks.map g = kg at *
   go_wp2
   exact bodyPost_ret (v := .agg #[.int .i64 op', .int .i64 nn, .slice b1 m1 d1, .slice ak lk ck]) (by simp [results, Tryz.results119, go_sem, z0, z1, z2, z3]) rfl HF.out
set_option maxHeartbeats 16000000 in
set_option maxRecDepth 100000 in
theorem rebS_any (g : Fo → Fo) (S0 : Nat → Prop) (f : Fo) (hf : f.size ≤ 1000000) (hil : f.is.length ≤ 1000000) (op' : Int) (c d : Value) (W : World) (hS0 : ∀ k, S0 k → k < W.heap.size) (hT : FS S0 W f c d)
  (HK : ∀ u ∈ f.ks, ∀ (c d : Value) (V : World), Since W V → FS (fun k => S0 k ∧ k < W.heap.size) V u c d → Calls Tryz.prog 67 #[.agg #[.int .i64 u.op, .int .i64 u.n, c, d]] V (FoOut (fun k => S0 k ∧ k < W.heap.size) (g u) V)) :
  Calls Tryz.prog 119 #[.agg #[.int .i64 f.op, .int .i64 f.n, c, d], .int .i64 op', .func (.func 67) #[] #[]] W (FoOut S0 (.mk op' f.n f.is (f.ks.map g)) W) := by
 have hsz := f.size_eq
 have hkl := Fo.sizes_len f.ks
 obtain ⟨op, nn, is, ks⟩ := f
 simp only [Fo.op, Fo.n, Fo.is, Fo.ks] at *
 obtain ⟨⟨hE2, hL2⟩, hK⟩ := hT.parts
 obtain ⟨a2, c2, rfl⟩ := hE2.shape
 obtain ⟨a3, c3, rfl⟩ := FSl.shape hK
 obtain ⟨W2, hW2⟩ : ∃ W2, W2 = (W.alloc (.cells #[.int .i64 op, .int .i64 nn, .slice a2 is.length c2, .slice a3 ks.length c3] 29)).alloc (.cells #[.int .i64 0, .int .i64 0, .slice none 0 0, .slice none 0 0] 29) := ⟨_, rfl⟩
 have hB2 : Below W.heap.size W W2 := by rw [hW2]; exact ((Below.refl _ _).alloc (Nat.le_refl _) _).alloc (by simp) _
 have hX2 : BoxL W.heap.size [.int .i64 op, .int .i64 nn, .slice a2 is.length c2, .slice a3 ks.length c3] W2 := by rw [hW2]; exact (BoxL.made W _ _).under _
 have hR2 : BoxL (W.heap.size + 1) [.int .i64 0, .int .i64 0, .slice none 0 0, .slice none 0 0] W2 := by
  rw [hW2]
  have := BoxL.made (W.alloc (.cells #[.int .i64 op, .int .i64 nn, .slice a2 is.length c2, .slice a3 ks.length c3] 29)) #[.int .i64 0, .int .i64 0, .slice none 0 0, .slice none 0 0] 29
  rwa [World.size_alloc] at this
 have hz2 : W2.heap.size = W.heap.size + 2 := by rw [hW2, World.size_alloc, World.size_alloc]
 have hBs : ∀ w, Since W2 w → Below W.heap.size W w := fun w h => hB2.trans (Below.mono h hB2.size)
 have HBS := Lib.hid hBs
 have KC := Lib.hid fun (w : World) (h : Since W2 w) => cloIv_any (.slice a2 is.length c2) is w ((hE2.low (hL2.low hS0) (hBs w h)).rfl') (by omega)
 have HKD := Lib.hid fun (j : Nat) (hj : j < ks.length) => kid_at hK hj
 have HS0 := Lib.hid hS0
 have HHK := Lib.hid HK
 have HX2 := Lib.hid hX2
 have HR2 := Lib.hid hR2
 have HZ2 := Lib.hid hz2
 have hn6 : ks.length ≤ 1000000 := by omega
 obtain ⟨c0, c1, c2a, c3a, -, -, -, -, hlt⟩ := hX2.all4
 clear hX2 hR2 hB2 hBs hE2 hL2 hK hT HK hS0 hsz hkl hf hil hz2
 generalize hnk : ks.length = n3 at *
 have HNK := Lib.hid hnk
 clear hnk
 generalize is.length = n2 at *
 go_enter Tryz.func119, Tryz.ntmps119
 go_upto_region 1 with (fail)
 rw [← hW2]
 clear hW2
 go_cut [7] (fun s wx => CutF S0 W W2 op' nn is s wx)
 case first =>
  have hs_W2 : Since W2 W2 := since_r _
  refine wp_region_noPanic ?_
  refine wp_region_held_drew (S := fun w' => w'.cell? ⟨W.heap.size, 1, none⟩ = some (.int .i64 nn) ∧ w'.cell? ⟨W.heap.size, 2, none⟩ = some (.slice a2 n2 c2) ∧ Since W2 w') (by kernel_rfl) ⟨c1, c2a, since_d (since_r _)⟩ (fun hHeld => ?_)
  refine wpAnyH_take (i := 0) (oi := ⟨some 10, Op.move (Operand.tmp 1), 3, _, _, none⟩) (v := ?_) rfl (by kernel_rfl) (by kernel_rfl) (by kernel_rfl) (fun _ _ _ h => h) (Or.inl ⟨by rfl, ?_⟩) (by assumption) ?_
  rotate_left 1
  ·(intro w hSw; (try dsimp only at hSw); go_simp; first | done | with_reducible rfl)
  try simp only [Act.put, List.setIfInBounds_toArray, List.set_cons_zero, List.set_cons_succ]
  refine wpAnyH_take (i := 1) (oi := ⟨some 11, Op.fieldAddr 29 (Operand.tmp 3) 1, 0, _, _, none⟩) (v := ?_) rfl (by kernel_rfl) (by kernel_rfl) (by kernel_rfl) (fun _ _ _ h => h) (Or.inl ⟨by rfl, ?_⟩) (by assumption) ?_
  rotate_left 1
  ·(intro w hSw; (try dsimp only at hSw); go_simp; first | done | with_reducible rfl)
  try simp only [Act.put, List.setIfInBounds_toArray, List.set_cons_zero, List.set_cons_succ]
  refine wpAnyH_take (i := 2) (oi := ⟨some 12, Op.load 3 (Operand.tmp 11), 3, _, _, none⟩) (v := ?_) rfl (by kernel_rfl) (by kernel_rfl) (by kernel_rfl) (fun _ _ _ h => h) (Or.inl ⟨by rfl, ?_⟩) (by assumption) ?_
  rotate_left 1
  ·(intro w hSw; (try dsimp only at hSw); go_simp; first | done | with_reducible rfl)
  try simp only [Act.put, List.setIfInBounds_toArray, List.set_cons_zero, List.set_cons_succ]
  refine wpAnyH_take (i := 3) (oi := ⟨some 13, Op.fieldAddr 29 (Operand.tmp 3) 2, 0, _, _, none⟩) (v := ?_) rfl (by kernel_rfl) (by kernel_rfl) (by kernel_rfl) (fun _ _ _ h => h) (Or.inl ⟨by rfl, ?_⟩) (by assumption) ?_
  rotate_left 1
  ·(intro w hSw; (try dsimp only at hSw); go_simp; first | done | with_reducible rfl)
  try simp only [Act.put, List.setIfInBounds_toArray, List.set_cons_zero, List.set_cons_succ]
  refine wpAnyH_take (i := 4) (oi := ⟨some 14, Op.load 27 (Operand.tmp 13), 27, _, _, none⟩) (v := ?_) rfl (by kernel_rfl) (by kernel_rfl) (by kernel_rfl) (fun _ _ _ h => h) (Or.inl ⟨by rfl, ?_⟩) (by assumption) ?_
  rotate_left 1
  ·(intro w hSw; (try dsimp only at hSw); go_simp; first | done | with_reducible rfl)
  try simp only [Act.put, List.setIfInBounds_toArray, List.set_cons_zero, List.set_cons_succ]
  refine wpAnyH_ready (rs := [5, 7]) (by kernel_rfl) (by simp) ?_
  refine AllReadyH.cons (o := ⟨some 15, Op.call { callee := Callee.value (Operand.func 166), args := #[Operand.tmp 14], argTypes := #[27] }, 27, _, _, none⟩) rfl (fun K hK => ?_) (AllReadyH.cons (o := ⟨some 7, Op.alloc 29, 0, _, _, none⟩) rfl (fun K hK => ?_) AllReadyH.nil)
  ·go_simp
   refine (KC.out _ (by first | exact hs_W2 | exact since_d hs_W2)).mono ?_
   rintro e v1 ⟨b1, m1, d1, rfl, hOh, hBh⟩
   have hp : Since W2 v1 := (by first | exact hBh.out | exact Since.step (since_d (since_r _)) hBh.out)
   have hs_v1 : Since W2 v1 := Since.step hs_W2 hp
   have hA1 : ∀ g, (.slice b1 m1 d1 : Value).ownBlock = some g → (World.heap W2).size ≤ g ∧ g < (World.heap v1).size := fun g e => hOh.out.lt g e
   have hO1 := hOh.out.base (B' := W2.heap.size) (show W2.heap.size ≤ (World.heap W2).size from Below.size hs_W2)
   have hz_v1 : (World.heap W2).size ≤ (World.heap v1).size := Below.size hp
   clear hOh hBh
   try go_wp2_with fail
   refine hK.out _ _ ?_ (fun hHeld => ?_)
   ·(with_reducible refine ⟨Since.cell ?_ c1, Since.cell ?_ c2a, ?_⟩) <;> (repeat (first | with_reducible assumption | with_reducible exact since_r _ | with_reducible refine Since.alloc ?_ _ | with_reducible refine since_d ?_))
   clear hK K
   try simp only [Act.put, List.setIfInBounds_toArray, List.set_cons_zero, List.set_cons_succ]
   refine wpAnyH_take (i := 6) (oi := ⟨some 16, Op.build 29 #[(0, Operand.tmp 10), (1, Operand.tmp 12), (2, Operand.tmp 15)], 29, _, _, none⟩) (v := ?_) rfl (by kernel_rfl) (by kernel_rfl) (by kernel_rfl) (fun _ _ _ h => h) (Or.inl ⟨by rfl, ?_⟩) (by assumption) ?_
   rotate_left 1
   ·(intro w hSw; (try dsimp only at hSw); go_simp; first | done | with_reducible rfl)
   try simp only [Act.put, List.setIfInBounds_toArray, List.set_cons_zero, List.set_cons_succ]
   refine wpAnyH_ready (rs := [7]) (by kernel_rfl) (by simp) ?_
   refine AllReadyH.cons (o := ⟨some 7, Op.alloc 29, 0, _, _, none⟩) rfl (fun K hK => ?_) AllReadyH.nil
   go_simp
   try go_wp2_with fail
   refine hK.out _ _ ?_ (fun hHeld => ?_)
   ·(with_reducible refine ⟨Since.cell ?_ c1, Since.cell ?_ c2a, ?_⟩) <;> (repeat (first | with_reducible assumption | with_reducible exact since_r _ | with_reducible refine Since.alloc ?_ _ | with_reducible refine since_d ?_))
   clear hK K
   try simp only [Act.put, List.setIfInBounds_toArray, List.set_cons_zero, List.set_cons_succ]
   obtain ⟨z, hz⟩ : ∃ v, v = World.alloc v1 (.cells #[.int .i64 0, .int .i64 0, .slice none 0 0, .slice none 0 0] 29) := ⟨_, rfl⟩
   obtain ⟨u, hu⟩ : ∃ v, v = World.alloc (World.drew v1) (.cells #[.int .i64 0, .int .i64 0, .slice none 0 0, .slice none 0 0] 29) := ⟨_, rfl⟩
   have hzX : BoxL (World.heap v1).size [.int .i64 0, .int .i64 0, .slice none 0 0, .slice none 0 0] z ∧ Since v1 z := by rw [hz]; exact ⟨BoxL.made v1 _ _, Since.alloc (since_r _) _⟩
   have huX : BoxL (World.heap v1).size [.int .i64 0, .int .i64 0, .slice none 0 0, .slice none 0 0] u ∧ Since v1 u := by rw [hu]; exact ⟨BoxL.made (World.drew v1) _ _, Since.alloc (since_d (since_r _)) _⟩
   first | (rw [← hz]; clear hu huX u; have hX := hzX; clear hzX hz; generalize z = y1 at *) | (rw [← hu]; clear hz hzX z; have hX := huX; clear huX hu; generalize u = y1 at *)
   have hp := hX.2
   have hX := hX.1
   have hs_y1 : Since W2 y1 := Since.step hs_v1 hp
   have hNH : (World.heap v1).size < (World.heap y1).size := hX.1
   have hO1 := hO1.below hp
   clear hp
   generalize hNN : (World.heap v1).size = NB at hX hNH ⊢
   have hNL : W2.heap.size ≤ NB := by rw [← hNN]; exact Below.size hs_v1
   obtain ⟨z0, z1, z2, z3, zf0, zf1, zf2, zf3, -⟩ := hX.all4
   refine wpAnyH_ready (rs := [8]) (by kernel_rfl) (by simp) ?_
   refine AllReadyH.cons (o := ⟨none, Op.store 29 (Operand.tmp 7) (Operand.tmp 16), 0, _, _, none⟩) rfl (fun K hK => ?_) AllReadyH.nil
   go_simp
   go_wp2_with fail
   have hs9 : Since W2 (put4 y1 NB (.int .i64 op') (.int .i64 nn) (.slice b1 m1 d1) (.slice none 0 0)) := put4_below hs_y1 hNL _ _ _ _
   unfold put4 at hs9
   refine hK.out _ _ ?_ (fun hHeld => ?_)
   ·(with_reducible refine ⟨Since.cell ?_ c1, Since.cell ?_ c2a, ?_⟩) <;> (repeat (first | with_reducible assumption | with_reducible exact since_r _ | with_reducible refine Since.alloc ?_ _ | with_reducible refine since_d ?_))
   clear hK K
   try simp only [Act.put, List.setIfInBounds_toArray, List.set_cons_zero, List.set_cons_succ]
   refine wpAnyH_done (by kernel_rfl) ?_ _
   refine NoPanic.normal ?_
   go_wp2_with fail
   go_meet
   have HOB := OF.made (S := fun k => (S0 k ∧ k < W.heap.size) ∨ W2.heap.size ≤ k) hX hNL hO1 (fun e => by have := hA1 _ e; omega) op' nn
   unfold put4 at HOB
   exact ⟨_, _, _, _, rfl, Lib.hid HOB, Lib.hid hs9⟩
  ·go_simp
   try go_wp2_with fail
   refine hK.out _ _ ?_ (fun hHeld => ?_)
   ·(with_reducible refine ⟨Since.cell ?_ c1, Since.cell ?_ c2a, ?_⟩) <;> (repeat (first | with_reducible assumption | with_reducible exact since_r _ | with_reducible refine Since.alloc ?_ _ | with_reducible refine since_d ?_))
   clear hK K
   try simp only [Act.put, List.setIfInBounds_toArray, List.set_cons_zero, List.set_cons_succ]
   obtain ⟨z, hz⟩ : ∃ v, v = World.alloc W2 (.cells #[.int .i64 0, .int .i64 0, .slice none 0 0, .slice none 0 0] 29) := ⟨_, rfl⟩
   obtain ⟨u, hu⟩ : ∃ v, v = World.alloc (World.drew W2) (.cells #[.int .i64 0, .int .i64 0, .slice none 0 0, .slice none 0 0] 29) := ⟨_, rfl⟩
   have hzX : BoxL (World.heap W2).size [.int .i64 0, .int .i64 0, .slice none 0 0, .slice none 0 0] z ∧ Since W2 z := by rw [hz]; exact ⟨BoxL.made W2 _ _, Since.alloc (since_r _) _⟩
   have huX : BoxL (World.heap W2).size [.int .i64 0, .int .i64 0, .slice none 0 0, .slice none 0 0] u ∧ Since W2 u := by rw [hu]; exact ⟨BoxL.made (World.drew W2) _ _, Since.alloc (since_d (since_r _)) _⟩
   first | (rw [← hz]; clear hu huX u; have hX := hzX; clear hzX hz; generalize z = y1 at *) | (rw [← hu]; clear hz hzX z; have hX := huX; clear huX hu; generalize u = y1 at *)
   have hp := hX.2
   have hX := hX.1
   have hs_y1 : Since W2 y1 := Since.step hs_W2 hp
   have hNH : (World.heap W2).size < (World.heap y1).size := hX.1
   clear hp
   generalize hNN : (World.heap W2).size = NB at hX hNH ⊢
   have hNL : W2.heap.size ≤ NB := by rw [← hNN]; exact Nat.le_refl _
   refine wpAnyH_ready (rs := [5]) (by kernel_rfl) (by simp) ?_
   refine AllReadyH.cons (o := ⟨some 15, Op.call { callee := Callee.value (Operand.func 166), args := #[Operand.tmp 14], argTypes := #[27] }, 27, _, _, none⟩) rfl (fun K hK => ?_) AllReadyH.nil
   go_simp
   refine (KC.out _ (by first | exact hs_y1 | exact since_d hs_y1)).mono ?_
   rintro e v1 ⟨b1, m1, d1, rfl, hOh, hBh⟩
   have hp : Since y1 v1 := (by first | exact hBh.out | exact Since.step (since_d (since_r _)) hBh.out)
   have hs_v1 : Since W2 v1 := Since.step hs_y1 hp
   have hA1 : ∀ g, (.slice b1 m1 d1 : Value).ownBlock = some g → (World.heap y1).size ≤ g ∧ g < (World.heap v1).size := fun g e => hOh.out.lt g e
   have hO1 := hOh.out.base (B' := W2.heap.size) (show W2.heap.size ≤ (World.heap y1).size from Below.size hs_y1)
   have hz_v1 : (World.heap y1).size ≤ (World.heap v1).size := Below.size hp
   clear hOh hBh
   try go_wp2_with fail
   refine hK.out _ _ ?_ (fun hHeld => ?_)
   ·(with_reducible refine ⟨Since.cell ?_ c1, Since.cell ?_ c2a, ?_⟩) <;> (repeat (first | with_reducible assumption | with_reducible exact since_r _ | with_reducible refine Since.alloc ?_ _ | with_reducible refine since_d ?_))
   clear hK K
   try simp only [Act.put, List.setIfInBounds_toArray, List.set_cons_zero, List.set_cons_succ]
   have hX := hX.keep hp
   clear hp
   refine wpAnyH_take (i := 6) (oi := ⟨some 16, Op.build 29 #[(0, Operand.tmp 10), (1, Operand.tmp 12), (2, Operand.tmp 15)], 29, _, _, none⟩) (v := ?_) rfl (by kernel_rfl) (by kernel_rfl) (by kernel_rfl) (fun _ _ _ h => h) (Or.inl ⟨by rfl, ?_⟩) (by assumption) ?_
   rotate_left 1
   ·(intro w hSw; (try dsimp only at hSw); go_simp; first | done | with_reducible rfl)
   try simp only [Act.put, List.setIfInBounds_toArray, List.set_cons_zero, List.set_cons_succ]
   obtain ⟨z0, z1, z2, z3, zf0, zf1, zf2, zf3, -⟩ := hX.all4
   refine wpAnyH_ready (rs := [8]) (by kernel_rfl) (by simp) ?_
   refine AllReadyH.cons (o := ⟨none, Op.store 29 (Operand.tmp 7) (Operand.tmp 16), 0, _, _, none⟩) rfl (fun K hK => ?_) AllReadyH.nil
   go_simp
   go_wp2_with fail
   have hs9 : Since W2 (put4 v1 NB (.int .i64 op') (.int .i64 nn) (.slice b1 m1 d1) (.slice none 0 0)) := put4_below hs_v1 hNL _ _ _ _
   unfold put4 at hs9
   refine hK.out _ _ ?_ (fun hHeld => ?_)
   ·(with_reducible refine ⟨Since.cell ?_ c1, Since.cell ?_ c2a, ?_⟩) <;> (repeat (first | with_reducible assumption | with_reducible exact since_r _ | with_reducible refine Since.alloc ?_ _ | with_reducible refine since_d ?_))
   clear hK K
   try simp only [Act.put, List.setIfInBounds_toArray, List.set_cons_zero, List.set_cons_succ]
   refine wpAnyH_done (by kernel_rfl) ?_ _
   refine NoPanic.normal ?_
   go_wp2_with fail
   go_meet
   have HOB := OF.made (S := fun k => (S0 k ∧ k < W.heap.size) ∨ W2.heap.size ≤ k) hX hNL hO1 (fun e => by have := hA1 _ e; omega) op' nn
   unfold put4 at HOB
   exact ⟨_, _, _, _, rfl, Lib.hid HOB, Lib.hid hs9⟩
 case rest =>
 obtain ⟨M, b1, m1, d1, rfl, hO, hS⟩ := hcut
 rename World => wo
 have HO := Lib.hid hO.out
 have HS := Lib.hid hS.out
 obtain ⟨q0, q1, q2, q3, -⟩ := (HX2.out.keep hS.out).open4
 clear hO hS c0 c1 c2a c3a KC
 go_wp2
 go_loopw [20] (fun v wr => ∃ (k : Nat) (ak : Option Addr) (lk ck : Nat) (rs : List Fr), k ≤ n3 ∧ v = .int .i64 k ∧ Hid (OF (fun k => (S0 k ∧ k < W.heap.size) ∨ W2.heap.size ≤ k) W2.heap.size M wr op' nn (.slice b1 m1 d1) (.slice ak lk ck) is rs ((ks.take k).map g)) ∧ Hid (Since W2 wr)) (fun v _ => n3 - (intOf v).toNat)
 case atStart => exact ⟨0, none, 0, 0, [], by omega, rfl, HO, HS⟩
 case round =>
  obtain ⟨k, ak, lk, ck, rs, hk, rfl, hO, hS⟩ := hrel
  clear HO HS
  by_cases hlt2 : k < n3
  ·have j1 : (k : Int) < n3 := by omega
   obtain ⟨g3, u, ua, um, ud, va, vm, vd, rfl, hSg, hg3, hcap, hu, u0, u1, u2, u3, hFu⟩ := HKD.out k hlt2
   have hBw := HBS.out wr hS.out
   have r0 : wr.cell? ⟨g3, k * 4, none⟩ = some (.int .i64 u.op) := (hBw.cell (p := ⟨g3, k * 4, none⟩) hg3).trans u0
   have r1 : wr.cell? ⟨g3, k * 4 + 1, none⟩ = some (.int .i64 u.n) := (hBw.cell (p := ⟨g3, k * 4 + 1, none⟩) hg3).trans u1
   have r2 : wr.cell? ⟨g3, k * 4 + 2, none⟩ = some (.slice ua um ud) := (hBw.cell (p := ⟨g3, k * 4 + 2, none⟩) hg3).trans u2
   have r3 : wr.cell? ⟨g3, k * 4 + 3, none⟩ = some (.slice va vm vd) := (hBw.cell (p := ⟨g3, k * 4 + 3, none⟩) hg3).trans u3
   obtain ⟨wx, hwx⟩ : ∃ wx, wx = wr.alloc (.cells #[.int .i64 u.op, .int .i64 u.n, .slice ua um ud, .slice va vm vd] 29) := ⟨_, rfl⟩
   have hSx : Since wr wx := by rw [hwx]; exact Since.alloc (since_r _) _
   have hX5 : BoxL wr.heap.size [.int .i64 u.op, .int .i64 u.n, .slice ua um ud, .slice va vm vd] wx := by rw [hwx]; exact BoxL.made wr _ _
   have HOX := Lib.hid (hO.out.frame hSx)
   have HSX := Lib.hid (Since.step hS.out hSx)
   have hSWV : ∀ V, Since wx V → Since W V := fun V hV => HBS.out V (Since.step HSX.out hV)
   have KQ := Lib.hid fun (V : World) (hV : Since wx V) => HHK.out u (List.mem_of_getElem? hu) (.slice ua um ud) (.slice va vm vd) V (hSWV V hV) (FS.mono (fun k h => h.1) _ (FS.keep (S' := fun k => S0 k ∧ k < W.heap.size) ⟨(hSWV V hV).size, fun b hb _ => (hSWV V hV).block b (HS0.out b hb)⟩ (fun b hl hb => ⟨hb, hl⟩) u hFu))
   have HSTEP : Hid ((ks.take (k + 1)).map g = (ks.take k).map g ++ [g u]) := Lib.hid (by rw [List.take_add_one, hu, List.map_append]; rfl)
   have hlr : rs.length + 1 ≤ 1000000000 := by have := hO.out.lie.1; rw [List.length_map, List.length_take] at this; omega
   have hSB : ∀ k, W2.heap.size ≤ k → (S0 k ∧ k < W.heap.size) ∨ W2.heap.size ≤ k := fun k h => .inr h
   have hS1 : ∀ k, (S0 k ∧ k < W.heap.size) → ((S0 k ∧ k < W.heap.size) ∨ W2.heap.size ≤ k) ∧ k < W2.heap.size := fun k h => ⟨.inl h, by have := HZ2.out; have := h.2; omega⟩
   have i2 : IntKind.i64.wrap ((k : Int) + 1) = ((k + 1 : Nat) : Int) := by rw [IntWalk.i64_in _ (by omega)]; omega
   clear hSWV hu hFu u0 u1 u2 u3 hBw
   go_upto_region 5 with (fail)
   rw [← hwx]
   clear hwx hSx r0 r1 r2 r3
   obtain ⟨o0, o1, o2, o3, -⟩ := hX5.open4
   obtain ⟨x0, x1, x2, x3, f0, f1, f2, f3, -⟩ := HOX.out.box.all4
   refine wp_region_noPanic ?_
   refine wp_region_held_drew (S := fun _ => True) (by kernel_rfl) (by trivial) (fun hHeld => ?_)
   refine wpAnyH_take (i := 0) (oi := ⟨some 24, Op.fieldAddr 29 (Operand.tmp 7) 3, 0, _, _, none⟩) (v := ?_) rfl (by kernel_rfl) (by kernel_rfl) (by kernel_rfl) (fun _ _ _ h => h) (Or.inl ⟨by rfl, ?_⟩) (by assumption) ?_
   rotate_left 1
   ·(intro w hSw; (try dsimp only at hSw); go_simp; first | done | with_reducible rfl)
   try simp only [Act.put, List.setIfInBounds_toArray, List.set_cons_zero, List.set_cons_succ]
   refine wpAnyH_take (i := 2) (oi := { dst := some 26, op := Op.move (Operand.tmp 2), type := 67, pos := _, after := #[], guard := none }) (v := ?_) rfl (by kernel_rfl) (by kernel_rfl) (by kernel_rfl) (fun _ _ _ h => h) (Or.inl ⟨by rfl, ?_⟩) (by assumption) ?_
   rotate_left 1
   ·(intro w hSw; (try dsimp only at hSw); go_simp; first | done | with_reducible rfl)
   try simp only [Act.put, List.setIfInBounds_toArray, List.set_cons_zero, List.set_cons_succ]
   refine wpAnyH_ready (rs := [1, 3]) (by kernel_rfl) (by simp) ?_
   refine AllReadyH.cons (o := ⟨some 25, Op.load 23 (Operand.tmp 24), 23, _, _, none⟩) rfl (fun K hK => ?_) (AllReadyH.cons (o := ⟨some 27, Op.load 29 (Operand.tmp 9), 29, _, _, none⟩) rfl (fun K hK => ?_) AllReadyH.nil)
   ·go_simp
    try go_wp2_with fail
    refine hK.out _ _ ?_ (fun hHeld => ?_)
    ·trivial
    clear hK K
    try simp only [Act.put, List.setIfInBounds_toArray, List.set_cons_zero, List.set_cons_succ]
    refine wpAnyH_ready (rs := [3]) (by kernel_rfl) (by simp) ?_
    refine AllReadyH.cons (o := ⟨some 27, Op.load 29 (Operand.tmp 9), 29, _, _, none⟩) rfl (fun K hK => ?_) AllReadyH.nil
    go_simp
    try go_wp2_with fail
    refine hK.out _ _ ?_ (fun hHeld => ?_)
    ·trivial
    clear hK K
    try simp only [Act.put, List.setIfInBounds_toArray, List.set_cons_zero, List.set_cons_succ]
    refine wpAnyH_ready (rs := [4]) (by kernel_rfl) (by simp) ?_
    refine AllReadyH.cons (o := ⟨some 28, Op.call { callee := Callee.value (Operand.tmp 26), args := #[Operand.tmp 27], argTypes := #[29] }, 29, _, _, none⟩) rfl (fun K hK => ?_) AllReadyH.nil
    go_simp
    refine (KQ.out _ (by first | exact since_r _ | exact since_d (since_r _))).mono ?_
    rintro e v9 ⟨⟨fop, fn, fa2, fn2, fc2, fa3, fn3, fc3⟩, rfl, hT9, hB9⟩
    try simp only
    have hS9 : Since wx v9 := (by first | exact hB9.out | exact Since.step (since_d (since_r _)) hB9.out)
    have hkid := OF.kid0 (S1 := fun k => S0 k ∧ k < W.heap.size) (t := g u) (r := ⟨fop, fn, fa2, fn2, fc2, fa3, fn3, fc3⟩) HOX.out hS9 hSB hS1 (by exact hT9.out) (.cells #[.int .i64 fop, .int .i64 fn, .slice fa2 fn2 fc2, .slice fa3 fn3 fc3] 29)
    have HO9 := Lib.hid hkid.1
    have HL9 := Lib.hid hkid.2
    have HS9 := Lib.hid (Since.alloc hS9 (.cells #[.int .i64 fop, .int .i64 fn, .slice fa2 fn2 fc2, .slice fa3 fn3 fc3] 29))
    have HCL := Lib.hid (one_cells RFo v9 ⟨fop, fn, fa2, fn2, fc2, fa3, fn3, fc3⟩ #[.int .i64 fop, .int .i64 fn, .slice fa2 fn2 fc2, .slice fa3 fn3 fc3] 29 rfl)
    have hzB : W2.heap.size ≤ (v9.alloc (.cells #[.int .i64 fop, .int .i64 fn, .slice fa2 fn2 fc2, .slice fa3 fn3 fc3] 29)).heap.size := by have := HO9.out.box.1; have := HO9.out.hB; omega
    obtain ⟨t0, t1, t2, t3, -, -, -, ht3, -⟩ := (HOX.out.frame hS9).box.all4
    obtain ⟨s0, s1, s2, s3, -, -, -, hs3, -⟩ := HO9.out.box.all4
    clear hT9 hB9 hkid
    try go_wp2_with fail
    refine hK.out _ _ ?_ (fun hHeld => ?_)
    ·trivial
    clear hK K
    try simp only [Act.put, List.setIfInBounds_toArray, List.set_cons_zero, List.set_cons_succ]
    refine wpAnyH_ready (rs := [5]) (by kernel_rfl) (by simp) ?_
    refine AllReadyH.cons (o := ⟨some 29, Op.buildSlice 23 1 #[(0, Operand.tmp 28)], 23, _, _, none⟩) rfl (fun K hK => ?_) AllReadyH.nil
    go_simp
    try go_wp2_with fail
    refine hK.out _ _ ?_ (fun hHeld => ?_)
    ·trivial
    clear hK K
    try simp only [Act.put, List.setIfInBounds_toArray, List.set_cons_zero, List.set_cons_succ]
    refine wpAnyH_ready (rs := [6]) (by kernel_rfl) (by simp) ?_
    refine AllReadyH.cons (o := ⟨some 30, Op.call { callee := Callee.builtin Builtin.append, args := #[Operand.tmp 25, Operand.tmp 29], argTypes := #[23, 23] }, 23, _, _, none⟩) rfl (fun K hK => ?_) AllReadyH.nil
    refine wp_row1_f (.tmp 25) (.tmp 29) 23 rfl RFo 29 64 _ Tryz.underlying23 Tryz.infoFo rfl (by decide) W2.heap.size (.slice ak lk ck) rs [⟨fop, fn, fa2, fn2, fc2, fa3, fn3, fc3⟩] v9.heap.size 1 1 rfl rfl rfl HCL.out HO9.out.ok hzB hlr ?_
    intro aq lq cq wn hnn hOn hBn hPn
    obtain ⟨y0, y1, y2, y3, g0, g1, g2, g3, -⟩ := (HO9.out.thereK hPn.out).all4
    refine hK.out _ _ ?_ (fun hHeld => ?_)
    ·trivial
    clear hK K
    try simp only [Act.put, List.setIfInBounds_toArray, List.set_cons_zero, List.set_cons_succ]
    refine wpAnyH_take (i := 7) (oi := ⟨some 31, Op.fieldAddr 29 (Operand.tmp 7) 3, 0, _, _, none⟩) (v := ?_) rfl (by kernel_rfl) (by kernel_rfl) (by kernel_rfl) (fun _ _ _ h => h) (Or.inl ⟨by rfl, ?_⟩) (by assumption) ?_
    rotate_left 1
    ·(intro w hSw; (try dsimp only at hSw); go_simp; first | done | with_reducible rfl)
    try simp only [Act.put, List.setIfInBounds_toArray, List.set_cons_zero, List.set_cons_succ]
    refine wpAnyH_ready (rs := [8]) (by kernel_rfl) (by simp) ?_
    refine AllReadyH.cons (o := ⟨none, Op.store 23 (Operand.tmp 31) (Operand.tmp 30), 0, _, _, none⟩) rfl (fun K hK => ?_) AllReadyH.nil
    go_simp
    go_wp2_with fail
    refine hK.out _ _ ?_ (fun hHeld => ?_)
    ·trivial
    clear hK K
    try simp only [Act.put, List.setIfInBounds_toArray, List.set_cons_zero, List.set_cons_succ]
    refine wpAnyH_done (by kernel_rfl) ?_ _
    refine NoPanic.normal ?_
    have hO7 := HO9.out.setK hPn.out hOn.out HL9.out
    have HO7 : Hid (OF (fun k => (S0 k ∧ k < W.heap.size) ∨ W2.heap.size ≤ k) W2.heap.size M (wn.setCell ⟨M, 3, none⟩ (.slice aq lq cq)) op' nn (.slice b1 m1 d1) (.slice aq lq cq) is (rs ++ [⟨fop, fn, fa2, fn2, fc2, fa3, fn3, fc3⟩]) ((ks.take (k + 1)).map g)) := Lib.hid (by rw [HSTEP.out]; exact hO7)
    have HS7 : Hid (Since W2 (wn.setCell ⟨M, 3, none⟩ (.slice aq lq cq))) := Lib.hid ((Below.trans (Since.step HSX.out HS9.out) hBn.out).setCell (p := ⟨M, 3, none⟩) HO9.out.hB _)
    go_wp2
    go_roundw
    case rel => exact ⟨k + 1, aq, lq, cq, _, by omega, by go_num, HO7, HS7⟩
    case measure => simp [intOf] <;> omega
   ·go_simp
    try go_wp2_with fail
    refine hK.out _ _ ?_ (fun hHeld => ?_)
    ·trivial
    clear hK K
    try simp only [Act.put, List.setIfInBounds_toArray, List.set_cons_zero, List.set_cons_succ]
    refine wpAnyH_ready (rs := [1, 4]) (by kernel_rfl) (by simp) ?_
    refine AllReadyH.cons (o := ⟨some 25, Op.load 23 (Operand.tmp 24), 23, _, _, none⟩) rfl (fun K hK => ?_) (AllReadyH.cons (o := ⟨some 28, Op.call { callee := Callee.value (Operand.tmp 26), args := #[Operand.tmp 27], argTypes := #[29] }, 29, _, _, none⟩) rfl (fun K hK => ?_) AllReadyH.nil)
    ·go_simp
     try go_wp2_with fail
     refine hK.out _ _ ?_ (fun hHeld => ?_)
     ·trivial
     clear hK K
     try simp only [Act.put, List.setIfInBounds_toArray, List.set_cons_zero, List.set_cons_succ]
     refine wpAnyH_ready (rs := [4]) (by kernel_rfl) (by simp) ?_
     refine AllReadyH.cons (o := ⟨some 28, Op.call { callee := Callee.value (Operand.tmp 26), args := #[Operand.tmp 27], argTypes := #[29] }, 29, _, _, none⟩) rfl (fun K hK => ?_) AllReadyH.nil
     go_simp
     refine (KQ.out _ (by first | exact since_r _ | exact since_d (since_r _))).mono ?_
     rintro e v9 ⟨⟨fop, fn, fa2, fn2, fc2, fa3, fn3, fc3⟩, rfl, hT9, hB9⟩
     try simp only
     have hS9 : Since wx v9 := (by first | exact hB9.out | exact Since.step (since_d (since_r _)) hB9.out)
     have hkid := OF.kid0 (S1 := fun k => S0 k ∧ k < W.heap.size) (t := g u) (r := ⟨fop, fn, fa2, fn2, fc2, fa3, fn3, fc3⟩) HOX.out hS9 hSB hS1 (by exact hT9.out) (.cells #[.int .i64 fop, .int .i64 fn, .slice fa2 fn2 fc2, .slice fa3 fn3 fc3] 29)
     have HO9 := Lib.hid hkid.1
     have HL9 := Lib.hid hkid.2
     have HS9 := Lib.hid (Since.alloc hS9 (.cells #[.int .i64 fop, .int .i64 fn, .slice fa2 fn2 fc2, .slice fa3 fn3 fc3] 29))
     have HCL := Lib.hid (one_cells RFo v9 ⟨fop, fn, fa2, fn2, fc2, fa3, fn3, fc3⟩ #[.int .i64 fop, .int .i64 fn, .slice fa2 fn2 fc2, .slice fa3 fn3 fc3] 29 rfl)
     have hzB : W2.heap.size ≤ (v9.alloc (.cells #[.int .i64 fop, .int .i64 fn, .slice fa2 fn2 fc2, .slice fa3 fn3 fc3] 29)).heap.size := by have := HO9.out.box.1; have := HO9.out.hB; omega
     obtain ⟨t0, t1, t2, t3, -, -, -, ht3, -⟩ := (HOX.out.frame hS9).box.all4
     obtain ⟨s0, s1, s2, s3, -, -, -, hs3, -⟩ := HO9.out.box.all4
     clear hT9 hB9 hkid
     try go_wp2_with fail
     refine hK.out _ _ ?_ (fun hHeld => ?_)
     ·trivial
     clear hK K
     try simp only [Act.put, List.setIfInBounds_toArray, List.set_cons_zero, List.set_cons_succ]
     refine wpAnyH_ready (rs := [5]) (by kernel_rfl) (by simp) ?_
     refine AllReadyH.cons (o := ⟨some 29, Op.buildSlice 23 1 #[(0, Operand.tmp 28)], 23, _, _, none⟩) rfl (fun K hK => ?_) AllReadyH.nil
     go_simp
     try go_wp2_with fail
     refine hK.out _ _ ?_ (fun hHeld => ?_)
     ·trivial
     clear hK K
     try simp only [Act.put, List.setIfInBounds_toArray, List.set_cons_zero, List.set_cons_succ]
     refine wpAnyH_ready (rs := [6]) (by kernel_rfl) (by simp) ?_
     refine AllReadyH.cons (o := ⟨some 30, Op.call { callee := Callee.builtin Builtin.append, args := #[Operand.tmp 25, Operand.tmp 29], argTypes := #[23, 23] }, 23, _, _, none⟩) rfl (fun K hK => ?_) AllReadyH.nil
     refine wp_row1_f (.tmp 25) (.tmp 29) 23 rfl RFo 29 64 _ Tryz.underlying23 Tryz.infoFo rfl (by decide) W2.heap.size (.slice ak lk ck) rs [⟨fop, fn, fa2, fn2, fc2, fa3, fn3, fc3⟩] v9.heap.size 1 1 rfl rfl rfl HCL.out HO9.out.ok hzB hlr ?_
     intro aq lq cq wn hnn hOn hBn hPn
     obtain ⟨y0, y1, y2, y3, g0, g1, g2, g3, -⟩ := (HO9.out.thereK hPn.out).all4
     refine hK.out _ _ ?_ (fun hHeld => ?_)
     ·trivial
     clear hK K
     try simp only [Act.put, List.setIfInBounds_toArray, List.set_cons_zero, List.set_cons_succ]
     refine wpAnyH_take (i := 7) (oi := ⟨some 31, Op.fieldAddr 29 (Operand.tmp 7) 3, 0, _, _, none⟩) (v := ?_) rfl (by kernel_rfl) (by kernel_rfl) (by kernel_rfl) (fun _ _ _ h => h) (Or.inl ⟨by rfl, ?_⟩) (by assumption) ?_
     rotate_left 1
     ·(intro w hSw; (try dsimp only at hSw); go_simp; first | done | with_reducible rfl)
     try simp only [Act.put, List.setIfInBounds_toArray, List.set_cons_zero, List.set_cons_succ]
     refine wpAnyH_ready (rs := [8]) (by kernel_rfl) (by simp) ?_
     refine AllReadyH.cons (o := ⟨none, Op.store 23 (Operand.tmp 31) (Operand.tmp 30), 0, _, _, none⟩) rfl (fun K hK => ?_) AllReadyH.nil
     go_simp
     go_wp2_with fail
     refine hK.out _ _ ?_ (fun hHeld => ?_)
     ·trivial
     clear hK K
     try simp only [Act.put, List.setIfInBounds_toArray, List.set_cons_zero, List.set_cons_succ]
     refine wpAnyH_done (by kernel_rfl) ?_ _
     refine NoPanic.normal ?_
     have hO7 := HO9.out.setK hPn.out hOn.out HL9.out
     have HO7 : Hid (OF (fun k => (S0 k ∧ k < W.heap.size) ∨ W2.heap.size ≤ k) W2.heap.size M (wn.setCell ⟨M, 3, none⟩ (.slice aq lq cq)) op' nn (.slice b1 m1 d1) (.slice aq lq cq) is (rs ++ [⟨fop, fn, fa2, fn2, fc2, fa3, fn3, fc3⟩]) ((ks.take (k + 1)).map g)) := Lib.hid (by rw [HSTEP.out]; exact hO7)
     have HS7 : Hid (Since W2 (wn.setCell ⟨M, 3, none⟩ (.slice aq lq cq))) := Lib.hid ((Below.trans (Since.step HSX.out HS9.out) hBn.out).setCell (p := ⟨M, 3, none⟩) HO9.out.hB _)
     go_wp2
     go_roundw
     case rel => exact ⟨k + 1, aq, lq, cq, _, by omega, by go_num, HO7, HS7⟩
     case measure => simp [intOf] <;> omega
    ·go_simp
     refine (KQ.out _ (by first | exact since_r _ | exact since_d (since_r _))).mono ?_
     rintro e v9 ⟨⟨fop, fn, fa2, fn2, fc2, fa3, fn3, fc3⟩, rfl, hT9, hB9⟩
     try simp only
     have hS9 : Since wx v9 := (by first | exact hB9.out | exact Since.step (since_d (since_r _)) hB9.out)
     have hkid := OF.kid0 (S1 := fun k => S0 k ∧ k < W.heap.size) (t := g u) (r := ⟨fop, fn, fa2, fn2, fc2, fa3, fn3, fc3⟩) HOX.out hS9 hSB hS1 (by exact hT9.out) (.cells #[.int .i64 fop, .int .i64 fn, .slice fa2 fn2 fc2, .slice fa3 fn3 fc3] 29)
     have HO9 := Lib.hid hkid.1
     have HL9 := Lib.hid hkid.2
     have HS9 := Lib.hid (Since.alloc hS9 (.cells #[.int .i64 fop, .int .i64 fn, .slice fa2 fn2 fc2, .slice fa3 fn3 fc3] 29))
     have HCL := Lib.hid (one_cells RFo v9 ⟨fop, fn, fa2, fn2, fc2, fa3, fn3, fc3⟩ #[.int .i64 fop, .int .i64 fn, .slice fa2 fn2 fc2, .slice fa3 fn3 fc3] 29 rfl)
     have hzB : W2.heap.size ≤ (v9.alloc (.cells #[.int .i64 fop, .int .i64 fn, .slice fa2 fn2 fc2, .slice fa3 fn3 fc3] 29)).heap.size := by have := HO9.out.box.1; have := HO9.out.hB; omega
     obtain ⟨t0, t1, t2, t3, -, -, -, ht3, -⟩ := (HOX.out.frame hS9).box.all4
     obtain ⟨s0, s1, s2, s3, -, -, -, hs3, -⟩ := HO9.out.box.all4
     clear hT9 hB9 hkid
     try go_wp2_with fail
     refine hK.out _ _ ?_ (fun hHeld => ?_)
     ·trivial
     clear hK K
     try simp only [Act.put, List.setIfInBounds_toArray, List.set_cons_zero, List.set_cons_succ]
     refine wpAnyH_ready (rs := [1, 5]) (by kernel_rfl) (by simp) ?_
     refine AllReadyH.cons (o := ⟨some 25, Op.load 23 (Operand.tmp 24), 23, _, _, none⟩) rfl (fun K hK => ?_) (AllReadyH.cons (o := ⟨some 29, Op.buildSlice 23 1 #[(0, Operand.tmp 28)], 23, _, _, none⟩) rfl (fun K hK => ?_) AllReadyH.nil)
     ·go_simp
      try go_wp2_with fail
      refine hK.out _ _ ?_ (fun hHeld => ?_)
      ·trivial
      clear hK K
      try simp only [Act.put, List.setIfInBounds_toArray, List.set_cons_zero, List.set_cons_succ]
      refine wpAnyH_ready (rs := [5]) (by kernel_rfl) (by simp) ?_
      refine AllReadyH.cons (o := ⟨some 29, Op.buildSlice 23 1 #[(0, Operand.tmp 28)], 23, _, _, none⟩) rfl (fun K hK => ?_) AllReadyH.nil
      go_simp
      try go_wp2_with fail
      refine hK.out _ _ ?_ (fun hHeld => ?_)
      ·trivial
      clear hK K
      try simp only [Act.put, List.setIfInBounds_toArray, List.set_cons_zero, List.set_cons_succ]
      refine wpAnyH_ready (rs := [6]) (by kernel_rfl) (by simp) ?_
      refine AllReadyH.cons (o := ⟨some 30, Op.call { callee := Callee.builtin Builtin.append, args := #[Operand.tmp 25, Operand.tmp 29], argTypes := #[23, 23] }, 23, _, _, none⟩) rfl (fun K hK => ?_) AllReadyH.nil
      refine wp_row1_f (.tmp 25) (.tmp 29) 23 rfl RFo 29 64 _ Tryz.underlying23 Tryz.infoFo rfl (by decide) W2.heap.size (.slice ak lk ck) rs [⟨fop, fn, fa2, fn2, fc2, fa3, fn3, fc3⟩] v9.heap.size 1 1 rfl rfl rfl HCL.out HO9.out.ok hzB hlr ?_
      intro aq lq cq wn hnn hOn hBn hPn
      obtain ⟨y0, y1, y2, y3, g0, g1, g2, g3, -⟩ := (HO9.out.thereK hPn.out).all4
      refine hK.out _ _ ?_ (fun hHeld => ?_)
      ·trivial
      clear hK K
      try simp only [Act.put, List.setIfInBounds_toArray, List.set_cons_zero, List.set_cons_succ]
      refine wpAnyH_take (i := 7) (oi := ⟨some 31, Op.fieldAddr 29 (Operand.tmp 7) 3, 0, _, _, none⟩) (v := ?_) rfl (by kernel_rfl) (by kernel_rfl) (by kernel_rfl) (fun _ _ _ h => h) (Or.inl ⟨by rfl, ?_⟩) (by assumption) ?_
      rotate_left 1
      ·(intro w hSw; (try dsimp only at hSw); go_simp; first | done | with_reducible rfl)
      try simp only [Act.put, List.setIfInBounds_toArray, List.set_cons_zero, List.set_cons_succ]
      refine wpAnyH_ready (rs := [8]) (by kernel_rfl) (by simp) ?_
      refine AllReadyH.cons (o := ⟨none, Op.store 23 (Operand.tmp 31) (Operand.tmp 30), 0, _, _, none⟩) rfl (fun K hK => ?_) AllReadyH.nil
      go_simp
      go_wp2_with fail
      refine hK.out _ _ ?_ (fun hHeld => ?_)
      ·trivial
      clear hK K
      try simp only [Act.put, List.setIfInBounds_toArray, List.set_cons_zero, List.set_cons_succ]
      refine wpAnyH_done (by kernel_rfl) ?_ _
      refine NoPanic.normal ?_
      have hO7 := HO9.out.setK hPn.out hOn.out HL9.out
      have HO7 : Hid (OF (fun k => (S0 k ∧ k < W.heap.size) ∨ W2.heap.size ≤ k) W2.heap.size M (wn.setCell ⟨M, 3, none⟩ (.slice aq lq cq)) op' nn (.slice b1 m1 d1) (.slice aq lq cq) is (rs ++ [⟨fop, fn, fa2, fn2, fc2, fa3, fn3, fc3⟩]) ((ks.take (k + 1)).map g)) := Lib.hid (by rw [HSTEP.out]; exact hO7)
      have HS7 : Hid (Since W2 (wn.setCell ⟨M, 3, none⟩ (.slice aq lq cq))) := Lib.hid ((Below.trans (Since.step HSX.out HS9.out) hBn.out).setCell (p := ⟨M, 3, none⟩) HO9.out.hB _)
      go_wp2
      go_roundw
      case rel => exact ⟨k + 1, aq, lq, cq, _, by omega, by go_num, HO7, HS7⟩
      case measure => simp [intOf] <;> omega
     ·go_simp
      try go_wp2_with fail
      refine hK.out _ _ ?_ (fun hHeld => ?_)
      ·trivial
      clear hK K
      try simp only [Act.put, List.setIfInBounds_toArray, List.set_cons_zero, List.set_cons_succ]
      refine wpAnyH_ready (rs := [1]) (by kernel_rfl) (by simp) ?_
      refine AllReadyH.cons (o := ⟨some 25, Op.load 23 (Operand.tmp 24), 23, _, _, none⟩) rfl (fun K hK => ?_) AllReadyH.nil
      go_simp
      try go_wp2_with fail
      refine hK.out _ _ ?_ (fun hHeld => ?_)
      ·trivial
      clear hK K
      try simp only [Act.put, List.setIfInBounds_toArray, List.set_cons_zero, List.set_cons_succ]
      refine wpAnyH_ready (rs := [6]) (by kernel_rfl) (by simp) ?_
      refine AllReadyH.cons (o := ⟨some 30, Op.call { callee := Callee.builtin Builtin.append, args := #[Operand.tmp 25, Operand.tmp 29], argTypes := #[23, 23] }, 23, _, _, none⟩) rfl (fun K hK => ?_) AllReadyH.nil
      refine wp_row1_f (.tmp 25) (.tmp 29) 23 rfl RFo 29 64 _ Tryz.underlying23 Tryz.infoFo rfl (by decide) W2.heap.size (.slice ak lk ck) rs [⟨fop, fn, fa2, fn2, fc2, fa3, fn3, fc3⟩] v9.heap.size 1 1 rfl rfl rfl HCL.out HO9.out.ok hzB hlr ?_
      intro aq lq cq wn hnn hOn hBn hPn
      obtain ⟨y0, y1, y2, y3, g0, g1, g2, g3, -⟩ := (HO9.out.thereK hPn.out).all4
      refine hK.out _ _ ?_ (fun hHeld => ?_)
      ·trivial
      clear hK K
      try simp only [Act.put, List.setIfInBounds_toArray, List.set_cons_zero, List.set_cons_succ]
      refine wpAnyH_take (i := 7) (oi := ⟨some 31, Op.fieldAddr 29 (Operand.tmp 7) 3, 0, _, _, none⟩) (v := ?_) rfl (by kernel_rfl) (by kernel_rfl) (by kernel_rfl) (fun _ _ _ h => h) (Or.inl ⟨by rfl, ?_⟩) (by assumption) ?_
      rotate_left 1
      ·(intro w hSw; (try dsimp only at hSw); go_simp; first | done | with_reducible rfl)
      try simp only [Act.put, List.setIfInBounds_toArray, List.set_cons_zero, List.set_cons_succ]
      refine wpAnyH_ready (rs := [8]) (by kernel_rfl) (by simp) ?_
      refine AllReadyH.cons (o := ⟨none, Op.store 23 (Operand.tmp 31) (Operand.tmp 30), 0, _, _, none⟩) rfl (fun K hK => ?_) AllReadyH.nil
      go_simp
      go_wp2_with fail
      refine hK.out _ _ ?_ (fun hHeld => ?_)
      ·trivial
      clear hK K
      try simp only [Act.put, List.setIfInBounds_toArray, List.set_cons_zero, List.set_cons_succ]
      refine wpAnyH_done (by kernel_rfl) ?_ _
      refine NoPanic.normal ?_
      have hO7 := HO9.out.setK hPn.out hOn.out HL9.out
      have HO7 : Hid (OF (fun k => (S0 k ∧ k < W.heap.size) ∨ W2.heap.size ≤ k) W2.heap.size M (wn.setCell ⟨M, 3, none⟩ (.slice aq lq cq)) op' nn (.slice b1 m1 d1) (.slice aq lq cq) is (rs ++ [⟨fop, fn, fa2, fn2, fc2, fa3, fn3, fc3⟩]) ((ks.take (k + 1)).map g)) := Lib.hid (by rw [HSTEP.out]; exact hO7)
      have HS7 : Hid (Since W2 (wn.setCell ⟨M, 3, none⟩ (.slice aq lq cq))) := Lib.hid ((Below.trans (Since.step HSX.out HS9.out) hBn.out).setCell (p := ⟨M, 3, none⟩) HO9.out.hB _)
      go_wp2
      go_roundw
      case rel => exact ⟨k + 1, aq, lq, cq, _, by omega, by go_num, HO7, HS7⟩
      case measure => simp [intOf] <;> omega
  ·have j1 : ¬ (k : Int) < n3 := by omega
   have hk1 : ks.take k = ks := List.take_of_length_le (by rw [HNK.out]; omega)
   rw [hk1] at hO
   obtain ⟨x0, x1, x2, x3, f0, f1, f2, f3, -⟩ := hO.out.box.all4
   obtain ⟨z0, z1, z2, z3, zf0, zf1, zf2, zf3, -⟩ := (HR2.out.keep hS.out).all4
   have hfin := put4_end (S0 := S0) (N := W.heap.size + 1) (HBS.out wr hS.out) (by omega) ⟨op', nn, b1, m1, d1, ak, lk, ck⟩ ⟨rfl, rfl, FS.mono (fun q hq => ⟨by
    have := HZ2.out
    rcases hq.1 with h1 | h1
    ·exact .inl h1
    ·exact .inr ⟨by omega, by omega⟩, hq.2⟩) _ (hO.out.done fun k h => .inr h)⟩ _ _ rfl rfl
   have HF := Lib.hid hfin
   unfold put4 at HF
   clear hfin hO hS HHK HKD HBS hk1
   generalize ks.map g = kg at *
   go_wp2
   exact bodyPost_ret (v := .agg #[.int .i64 op', .int .i64 nn, .slice b1 m1 d1, .slice ak lk ck]) (by simp [results, Tryz.results119, go_sem, z0, z1, z2, z3]) rfl HF.out
end Go.Proofs.YtgnloodmbgdgdaaGreat
