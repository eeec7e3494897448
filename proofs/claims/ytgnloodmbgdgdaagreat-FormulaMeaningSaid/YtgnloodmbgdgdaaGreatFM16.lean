import Derived.Test.YtgnloodmbgdgdaaGreatFM15
namespace Go.Proofs.YtgnloodmbgdgdaaGreat
open Go.RowKit Go.Shelf
def put4 (w : World) (N : Nat) (a b c d : Value) : World := (((w.setCell ⟨N, 0, none⟩ a).setCell ⟨N, 1, none⟩ b).setCell ⟨N, 2, none⟩ c).setCell ⟨N, 3, none⟩ d
theorem put4_keep {S : Nat → Prop} (w : World) (N : Nat) (a b c d : Value) (h : ∀ k, S k → k ≠ N) : KeepS S w (put4 w N a b c d) := by
 refine ⟨by unfold put4; simp only [World.size_setCell]; exact Nat.le_refl _, fun k hb hl => ?_⟩
 have hne := h k hb
 unfold put4
 rw [Below.heap_setCell _ _ _ _ hne, Below.heap_setCell _ _ _ _ hne, Below.heap_setCell _ _ _ _ hne, Below.heap_setCell _ _ _ _ hne]
theorem put4_below {B N : Nat} {w w' : World} (h : Below B w w') (hN : B ≤ N) (a b c d : Value) : Below B w (put4 w' N a b c d) :=
 (((h.setCell (p := ⟨N, 0, none⟩) hN a).setCell (p := ⟨N, 1, none⟩) hN b).setCell (p := ⟨N, 2, none⟩) hN c).setCell (p := ⟨N, 3, none⟩) hN d
theorem BoxL.all4 {N : Nat} {a b c d : Value} {W : World} (h : BoxL N [a, b, c, d] W) : W.cell? ⟨N, 0, none⟩ = some a ∧ W.cell? ⟨N, 1, none⟩ = some b ∧ W.cell? ⟨N, 2, none⟩ = some c ∧ W.cell? ⟨N, 3, none⟩ = some d ∧ W.frozen? ⟨N, 0, none⟩ = false ∧ W.frozen? ⟨N, 1, none⟩ = false ∧ W.frozen? ⟨N, 2, none⟩ = false ∧ W.frozen? ⟨N, 3, none⟩ = false ∧ N < W.heap.size :=
 ⟨(h.2 0 a rfl).1, (h.2 1 b rfl).1, (h.2 2 c rfl).1, (h.2 3 d rfl).1, (h.2 0 a rfl).2, (h.2 1 b rfl).2, (h.2 2 c rfl).2, (h.2 3 d rfl).2, h.1⟩
theorem put4_st (w : World) (N : Nat) (a b c d : Value) : (put4 w N a b c d).os = w.os ∧ (put4 w N a b c d).tape = w.tape ∧ (put4 w N a b c d).output = w.output := ⟨rfl, rfl, rfl⟩
def GenOut (M : Nat) (sv : Value) (zs : List Int) (f : Fo) (i : Nat) (cl l : Int) (W : World) (e : Ending) (w' : World) : Prop :=
 ∃ r : Fr, e = .returned (.agg #[.int .i64 r.op, .int .i64 r.n, .slice r.a2 r.n2 r.c2, .slice r.a3 r.n3 r.c3]) ∧ Hid (FSr (fun k => W.heap.size ≤ k ∧ k < w'.heap.size) w' f r) ∧ Hid (Mk M sv zs i cl l w') ∧ Hid (But M W w')
theorem KeepS.imp {S S' : Nat → Prop} {w w' : World} (h : KeepS S w w') (hs : ∀ k, S' k → S k) : KeepS S' w w' := ⟨h.1, fun k hk hl => h.2 k (hs k hk) hl⟩
theorem KeepS.trans {S : Nat → Prop} {A B C : World} (h : KeepS S A B) (k : KeepS S B C) : KeepS S A C := ⟨Nat.le_trans h.1 k.1, fun b hb hl => (k.2 b hb (Nat.lt_of_lt_of_le hl h.1)).trans (h.2 b hb hl)⟩
theorem gen_end {M N : Nat} {sv : Value} {zs : List Int} {f : Fo} {i : Nat} {cl l : Int} {W w1 : World} (hN : W.heap.size = N) (hMN : M < N) (hE : Els .i64 W sv zs) (hM : Mk M sv zs i cl l w1) (hB : But M W w1) (r : Fr) (hF : FSr (fun k => N < k ∧ k < w1.heap.size) w1 f r) (c d : Value) (hc : c = .slice r.a2 r.n2 r.c2) (hd : d = .slice r.a3 r.n3 r.c3) :
  GenOut M sv zs f i cl l W (.returned (.agg #[.int .i64 r.op, .int .i64 r.n, c, d])) (put4 w1 N (.int .i64 r.op) (.int .i64 r.n) c d) := by
 subst hN hc hd
 have hk : KeepS (fun k => k ≠ W.heap.size) w1 (put4 w1 W.heap.size (.int .i64 r.op) (.int .i64 r.n) (.slice r.a2 r.n2 r.c2) (.slice r.a3 r.n3 r.c3)) := put4_keep _ _ _ _ _ _ fun _ h => h
 refine ⟨r, rfl, Lib.hid ?_, Lib.hid ⟨?_, ?_, hM.far⟩, Lib.hid ⟨Nat.le_trans hB.1 hk.1, fun b hb hl => (hk.2 b (by omega) (Nat.lt_of_lt_of_le hl hB.1)).trans (hB.2 b hb hl), (put4_st w1 W.heap.size (.int .i64 r.op) (.int .i64 r.n) (.slice r.a2 r.n2 r.c2) (.slice r.a3 r.n3 r.c3)).1.trans hB.st.1, (put4_st w1 W.heap.size (.int .i64 r.op) (.int .i64 r.n) (.slice r.a2 r.n2 r.c2) (.slice r.a3 r.n3 r.c3)).2.1.trans hB.st.2.1, (put4_st w1 W.heap.size (.int .i64 r.op) (.int .i64 r.n) (.slice r.a2 r.n2 r.c2) (.slice r.a3 r.n3 r.c3)).2.2.trans hB.st.2.2⟩⟩
 ·exact FSr.keep hF (hk.imp fun k h => by omega) (S' := fun k => W.heap.size ≤ k) (fun b _ h => by omega)
 ·exact hk.box hM.box (by omega)
 ·have h1 := hM.els
  refine h1.keepS (S := fun k => k ≠ W.heap.size) ?_ hk
  rcases hE with ⟨he, -⟩ | ⟨b, off, cap, hb, e, -⟩
  ·exact .inl he
  ·exact .inr ⟨b, off, _, cap, Nat.ne_of_lt hb, e⟩
set_option maxHeartbeats 8000000 in
set_option maxRecDepth 100000 in
theorem leaf_any (zs : List Int) (hw : Wfs zs) (M : Nat) (sv : Value) (i : Nat) (cl l : Int) (W : World) (h : Mk M sv zs i cl l W) (h1 : 1 ≤ cl) (h2 : cl ≤ 64) (hi : i ≤ 90000) :
  Calls Tryz.prog 100 #[.pointer (some ⟨M, 0, none⟩)] W (GenOut M sv zs (leafG zs cl i).1 (leafG zs cl i).2 cl l W) := by
 obtain ⟨W1, hW1⟩ : ∃ W1, W1 = W.alloc (.cells #[.int .i64 0, .int .i64 0, .slice none 0 0, .slice none 0 0] 29) := ⟨_, rfl⟩
 have hS1 : Since W W1 := by rw [hW1]; exact Since.alloc (Below.refl _ _) _
 have hX : BoxL W.heap.size [.int .i64 0, .int .i64 0, .slice none 0 0, .slice none 0 0] W1 := by rw [hW1]; exact BoxL.made W _ _
 have hsz : W1.heap.size = W.heap.size + 1 := by rw [hW1, World.size_alloc]
 have hMN : M < W.heap.size := h.box.1
 have K1 := Lib.hid (next_any zs hw M sv i cl l 11 W1 (h.since hS1) (by decide) (by decide) (by omega))
 have KN := Lib.hid fun (j : Nat) (n : Int) (w1 : World) (hm : Mk M sv zs j cl l w1) (h1 : 1 ≤ n) (h2 : n ≤ 1048576) (hi : j ≤ 99999) => next_any zs hw M sv j cl l n w1 hm h1 h2 hi
 have HE := Lib.hid h.els
 have HX := Lib.hid hX
 have HS1 := Lib.hid hS1
 have HZ := Lib.hid hsz
 have hp := pickI_range zs i 11 (by decide)
 have hL : leafG zs cl i = if pickI zs i 11 < 6 then (.mk 1 (pickI zs (i + 1) cl) [] [], i + 2) else if pickI zs i 11 = 10 then (.mk 0 0 [] [], i + 1) else (.mk 2 (pickI zs (i + 1) 3) (rangeL (pickI zs (i + 2) 1048576).toNat) [], i + 3) := rfl
 generalize leafG zs cl i = L at *
 generalize pickI zs i 11 = p at *
 have HL := Lib.hid hL
 obtain ⟨hp0, hp1⟩ := hp
 clear hX hS1 hsz hL h
 go_enter Tryz.func100, Tryz.ntmps100
 go_upto_region 1 with (fail)
 rw [← hW1]
 clear hW1
 generalize hN : W.heap.size = N at *
 have HN := Lib.hid hN
 clear hN
 go_wp2_with fail
 refine K1.out.mono ?_
 rintro e w1 ⟨rfl, hM1, hB1⟩
 have HM1 := Lib.hid hM1
 have HB1 := Lib.hid hB1
 have hX1 := hB1.box HX.out (by omega)
 clear hM1 hB1 K1 HX
 by_cases c1 : p < 6
 ·have hL2 : L = (.mk 1 (pickI zs (i + 1) cl) [] [], i + 2) := by rw [HL.out, if_pos c1]
  subst hL2
  clear HL
  obtain ⟨-, -, o2, -, -⟩ := HM1.out.box.open4
  go_wp2_with fail
  refine (KN.out _ cl w1 HM1.out h1 (by omega) (by omega)).mono ?_
  rintro e w2 ⟨rfl, hM2, hB2⟩
  have hX2 := hB2.box hX1 (by omega)
  obtain ⟨x0, x1, x2, x3, f0, f1, f2, f3, -⟩ := hX2.all4
  generalize pickI zs (i + 1) cl = q at *
  have hfin := gen_end HN.out hMN HE.out hM2 ((But.since HS1.out).trans (HB1.out.trans hB2)) ⟨1, q, none, 0, 0, none, 0, 0⟩ (f := .mk 1 q [] []) ⟨rfl, rfl, FS.of (.inl ⟨.inl rfl, rfl⟩) (.inl (.inl rfl)) (.inl ⟨.inl rfl, rfl⟩)⟩ _ _ rfl rfl
  have HF := Lib.hid hfin
  unfold put4 at HF
  clear hfin hX1 hX2 hM2 hB2 KN
  go_wp2
  exact bodyPost_ret (v := .agg #[.int .i64 1, .int .i64 q, .slice none 0 0, .slice none 0 0]) (by simp [results, Tryz.results100, go_sem, x0, x1, x2, x3]) rfl HF.out
 ·by_cases c2 : p = 10
  ·have hL2 : L = (.mk 0 0 [] [], i + 1) := by rw [HL.out, if_neg c1, if_pos c2]
   subst hL2
   subst c2
   clear HL c1
   obtain ⟨x0, x1, x2, x3, f0, f1, f2, f3, -⟩ := hX1.all4
   have hfin := gen_end HN.out hMN HE.out HM1.out ((But.since HS1.out).trans HB1.out) ⟨0, 0, none, 0, 0, none, 0, 0⟩ (f := .mk 0 0 [] []) ⟨rfl, rfl, FS.of (.inl ⟨.inl rfl, rfl⟩) (.inl (.inl rfl)) (.inl ⟨.inl rfl, rfl⟩)⟩ _ _ rfl rfl
   have HF := Lib.hid hfin
   unfold put4 at HF
   clear hfin hX1 KN
   go_wp2
   exact bodyPost_ret (v := .agg #[.int .i64 0, .int .i64 0, .slice none 0 0, .slice none 0 0]) (by simp [results, Tryz.results100, go_sem, x0, x1, x2, x3]) rfl HF.out
  ·obtain ⟨n, hn, hn2⟩ : ∃ n : Nat, pickI zs (i + 2) 1048576 = (n : Int) ∧ n < 1048576 := ⟨(pickI zs (i + 2) 1048576).toNat, by have := pickI_range zs (i + 2) 1048576 (by decide); omega, by have := pickI_range zs (i + 2) 1048576 (by decide); omega⟩
   have hL2 : L = (.mk 2 (pickI zs (i + 1) 3) (rangeL n) [], i + 1 + 1 + 1) := by rw [HL.out, if_neg c1, if_neg c2, hn, Int.toNat_natCast]
   have HPN := Lib.hid hn
   have c3 : (p == 10) = false := by simpa using c2
   subst hL2
   clear HL c2 hn
   go_wp2_with fail
   refine (KN.out _ 3 w1 HM1.out (by decide) (by decide) (by omega)).mono ?_
   rintro e w2 ⟨rfl, hM2, hB2⟩
   have HM2 := Lib.hid hM2
   have HB2 := Lib.hid hB2
   have hX2 := hB2.box hX1 (by omega)
   clear hM2 hB2 hX1
   generalize pickI zs (i + 1) 3 = q at *
   go_wp2_with fail
   refine (KN.out _ 1048576 w2 HM2.out (by decide) (by decide) (by omega)).mono ?_
   rintro e w3 ⟨rfl, hM3, hB3⟩
   have HM3 := Lib.hid hM3
   have HB3 := Lib.hid hB3
   have hX3 := hB3.box hX2 (by omega)
   have e2 : i + 1 + 1 = i + 2 := by omega
   rw [e2, HPN.out]
   clear hM3 hB3 hX2 e2 KN
   go_wp2_with fail
   refine (range_any n hn2 w3).mono ?_
   rintro e w4 ⟨v, rfl, hE4, hI4, hB4⟩
   obtain ⟨a2, d2, rfl⟩ := hE4.out.shape
   have hlt := hX3.1
   have hF : FSr (fun k => N < k ∧ k < w4.heap.size) w4 (.mk 2 q (rangeL n) []) ⟨2, q, a2, (rangeL n).length, d2, none, 0, 0⟩ := ⟨rfl, rfl, FS.of hE4.out (hI4.out.mono fun k hk => ⟨by have := hk.1; omega, hk.2⟩) (.inl ⟨.inl rfl, rfl⟩)⟩
   have hX4 := hX3.keep hB4.out
   obtain ⟨x0, x1, x2, x3, f0, f1, f2, f3, -⟩ := hX4.all4
   have hfin := gen_end HN.out hMN HE.out (HM3.out.since hB4.out) ((But.since HS1.out).trans (HB1.out.trans (HB2.out.trans (HB3.out.trans (But.since hB4.out))))) _ hF _ _ rfl rfl
   have HF := Lib.hid hfin
   unfold put4 at HF
   clear hfin hX3 hX4 hE4 hI4 hB4 hF
   generalize (rangeL n).length = m2 at *
   generalize rangeL n = RL at *
   go_wp2
   exact bodyPost_ret (v := .agg #[.int .i64 2, .int .i64 q, .slice a2 m2 d2, .slice none 0 0]) (by simp [results, Tryz.results100, go_sem, x0, x1, x2, x3]) rfl HF.out
end Go.Proofs.YtgnloodmbgdgdaaGreat
namespace Go.Proofs.YtgnloodmbgdgdaaGreat
open Go.RowKit Go.Shelf
theorem Tryz.infoFo : (Tryz.prog.info? 29).map (fun i => (i.zero, i.size, i.bytes)) = some (some (.agg #[.int .i64 0, .int .i64 0, .slice none 0 0, .slice none 0 0]), 4, 64) := by kernel_rfl
def FoOut (S0 : Nat → Prop) (f : Fo) (W : World) (e : Ending) (w' : World) : Prop :=
 ∃ r : Fr, e = .returned (.agg #[.int .i64 r.op, .int .i64 r.n, .slice r.a2 r.n2 r.c2, .slice r.a3 r.n3 r.c3]) ∧ Hid (FSr (fun k => (S0 k ∨ W.heap.size ≤ k) ∧ k < w'.heap.size) w' f r) ∧ Hid (Below W.heap.size W w')
theorem one_kid {S S' : Nat → Prop} {W : World} {t : Fo} {r : Fr} (h : FSr S W t r) (op n : Int) (T : TypeId) (hs : ∀ b, b < W.heap.size → S b → S' b) (hn : S' W.heap.size) :
  FSr (fun k => S' k ∧ k < (W.alloc (.cells #[.int .i64 r.op, .int .i64 r.n, .slice r.a2 r.n2 r.c2, .slice r.a3 r.n3 r.c3] T)).heap.size) (W.alloc (.cells #[.int .i64 r.op, .int .i64 r.n, .slice r.a2 r.n2 r.c2, .slice r.a3 r.n3 r.c3] T)) (.mk op n [] [t]) ⟨op, n, none, 0, 0, some ⟨W.heap.size, 0, none⟩, 1, 1⟩ := by
 have hO := ROwn.new RFo T W [r] #[.int .i64 r.op, .int .i64 r.n, .slice r.a2 r.n2 r.c2, .slice r.a3 r.n3 r.c3] rfl (by unfold maxLen; simp)
 have hI : InS (fun k => S' k ∧ k < (W.alloc (.cells #[.int .i64 r.op, .int .i64 r.n, .slice r.a2 r.n2 r.c2, .slice r.a3 r.n3 r.c3] T)).heap.size) (.slice (some ⟨W.heap.size, 0, none⟩) 1 1) := by
  refine hO.ins.mono fun k hk => ⟨?_, hk.2⟩
  rw [World.size_alloc] at hk
  have e : k = W.heap.size := by omega
  rw [e]
  exact hn
 refine ⟨rfl, rfl, FS.of (.inl ⟨.inl rfl, rfl⟩) (.inl (.inl rfl)) (FSl.of hO.els hI rfl fun j r' t' hr ht => ?_)⟩
 match j with
 | 0 =>
  cases hr
  cases ht
  exact FSr.keep (S' := S') h ⟨by simp, fun b _ hl => Below.heap_alloc _ _ _ hl⟩ hs
 | j + 1 => simp at hr
theorem put4_end {S0 : Nat → Prop} {f : Fo} {N : Nat} {W w1 : World} (hB : Below W.heap.size W w1) (hN : W.heap.size ≤ N) (r : Fr) (hF : FSr (fun k => ((S0 k ∧ k < W.heap.size) ∨ (W.heap.size ≤ k ∧ k ≠ N)) ∧ k < w1.heap.size) w1 f r) (c d : Value) (hc : c = .slice r.a2 r.n2 r.c2) (hd : d = .slice r.a3 r.n3 r.c3) :
  FoOut S0 f W (.returned (.agg #[.int .i64 r.op, .int .i64 r.n, c, d])) (put4 w1 N (.int .i64 r.op) (.int .i64 r.n) c d) := by
 subst hc hd
 exact ⟨r, rfl, Lib.hid (FSr.keep (S' := fun k => S0 k ∨ W.heap.size ≤ k) hF (put4_keep _ _ _ _ _ _ fun k h => by have := h.1; omega) fun b _ h => h.1.imp (fun h => h.1) (fun h => h.1)), Lib.hid (put4_below hB hN _ _ _ _)⟩
set_option maxHeartbeats 4000000 in
set_option maxRecDepth 100000 in
theorem rnot_any {S0 : Nat → Prop} (t : Fo) (r : Fr) (W : World) (h : FSr S0 W t r) :
  Calls Tryz.prog 88 #[.agg #[.int .i64 r.op, .int .i64 r.n, .slice r.a2 r.n2 r.c2, .slice r.a3 r.n3 r.c3]] W (FoOut S0 (.mk 6 0 [] [t]) W) := by
 obtain ⟨W1, hW1⟩ : ∃ W1, W1 = W.alloc (.cells #[.int .i64 r.op, .int .i64 r.n, .slice r.a2 r.n2 r.c2, .slice r.a3 r.n3 r.c3] 29) := ⟨_, rfl⟩
 have hS1 : Since W W1 := by rw [hW1]; exact Since.alloc (Below.refl _ _) _
 have hX1 : BoxL W.heap.size [.int .i64 r.op, .int .i64 r.n, .slice r.a2 r.n2 r.c2, .slice r.a3 r.n3 r.c3] W1 := by rw [hW1]; exact BoxL.made W _ _
 have hz1 : W1.heap.size = W.heap.size + 1 := by rw [hW1, World.size_alloc]
 obtain ⟨W2, hW2⟩ : ∃ W2, W2 = W1.alloc (.cells #[.int .i64 0, .int .i64 0, .slice none 0 0, .slice none 0 0] 29) := ⟨_, rfl⟩
 have hS2 : Since W1 W2 := by rw [hW2]; exact Since.alloc (Below.refl _ _) _
 have hX2 : BoxL (W.heap.size + 1) [.int .i64 0, .int .i64 0, .slice none 0 0, .slice none 0 0] W2 := by rw [hW2, ← hz1]; exact BoxL.made W1 _ _
 have hz2 : W2.heap.size = W.heap.size + 1 + 1 := by rw [hW2, World.size_alloc, hz1]
 have hS02 : Since W W2 := Since.step hS1 hS2
 have hF2 : FSr (fun k => (S0 k ∧ k < W.heap.size) ∧ k < W2.heap.size) W2 t r := FSr.keep (S' := fun k => S0 k ∧ k < W.heap.size) h ⟨hS02.size, fun b _ hl => hS02.block b hl⟩ fun b hl hb => ⟨hb, hl⟩
 obtain ⟨W3, hW3⟩ : ∃ W3, W3 = put4 W2 (W.heap.size + 1) (.int .i64 6) (.int .i64 0) (.slice none 0 0) (.slice (some ⟨W.heap.size + 1 + 1, 0, none⟩) 1 1) := ⟨_, rfl⟩
 have hz3 : W3.heap.size = W.heap.size + 1 + 1 := by rw [hW3]; unfold put4; simp only [World.size_setCell]; exact hz2
 have hF3 : FSr (fun k => (S0 k ∧ k < W.heap.size) ∧ k < W3.heap.size) W3 t r := by
  refine FSr.keep (S' := fun k => S0 k ∧ k < W.heap.size) hF2 ?_ fun b _ h => h.1
  rw [hW3]
  exact put4_keep _ _ _ _ _ _ fun k h => by have := h.1.2; omega
 have hB3 : Below W.heap.size W W3 := by rw [hW3]; exact put4_below hS02 (by omega) _ _ _ _
 have hF4 := one_kid (S' := fun k => S0 k ∨ W.heap.size ≤ k) hF3 6 0 29 (fun b _ hb => .inl hb.1.1) (.inr (by rw [hz3]; omega))
 have hB4 : Below W.heap.size W (W3.alloc (.cells #[.int .i64 r.op, .int .i64 r.n, .slice r.a2 r.n2 r.c2, .slice r.a3 r.n3 r.c3] 29)) := hB3.alloc hB3.size _
 have hfin : FoOut S0 (.mk 6 0 [] [t]) W (.returned (.agg #[.int .i64 6, .int .i64 0, .slice none 0 0, .slice (some ⟨W3.heap.size, 0, none⟩) 1 1])) (W3.alloc (.cells #[.int .i64 r.op, .int .i64 r.n, .slice r.a2 r.n2 r.c2, .slice r.a3 r.n3 r.c3] 29)) := ⟨_, rfl, Lib.hid hF4, Lib.hid hB4⟩
 rw [hz3, hW3] at hfin
 unfold put4 at hfin
 have hlt : W.heap.size + 1 < W2.heap.size := by omega
 obtain ⟨x0, x1, x2, x3, f0, f1, f2, f3, -⟩ := hX2.all4
 obtain ⟨o0, o1, o2, o3, -⟩ := (hX1.keep hS2).open4
 have HF := Lib.hid hfin
 obtain ⟨op, n, a2, n2, c2, a3, n3, c3⟩ := r
 simp only at *
 clear hfin hF2 hF3 hF4 hB3 hB4 hz3 hW3 hS02 hX1 hX2 hS1 hS2 h
 go_enter Tryz.func88, Tryz.ntmps88
 go_upto_region 1 with (fail)
 rw [← hW1, ← hW2]
 clear hW1 hW2
 go_wp2
 exact bodyPost_ret (v := .agg #[.int .i64 6, .int .i64 0, .slice none 0 0, .slice (some ⟨W.heap.size + 1 + 1, 0, none⟩) 1 1]) (by simp [results, Tryz.results88, go_sem, World.cell?_alloc_past, World.size_setCell, hlt, x0, x1, x2, x3]) rfl HF.out
set_option maxHeartbeats 4000000 in
set_option maxRecDepth 100000 in
theorem lnot_any {S0 : Nat → Prop} (t : Fo) (r : Fr) (W : World) (h : FSr S0 W t r) :
  Calls Tryz.prog 41 #[.agg #[.int .i64 r.op, .int .i64 r.n, .slice r.a2 r.n2 r.c2, .slice r.a3 r.n3 r.c3]] W (FoOut S0 (.mk 6 0 [] [t]) W) := by
 obtain ⟨W1, hW1⟩ : ∃ W1, W1 = W.alloc (.cells #[.int .i64 r.op, .int .i64 r.n, .slice r.a2 r.n2 r.c2, .slice r.a3 r.n3 r.c3] 29) := ⟨_, rfl⟩
 have hS1 : Since W W1 := by rw [hW1]; exact Since.alloc (Below.refl _ _) _
 have hX1 : BoxL W.heap.size [.int .i64 r.op, .int .i64 r.n, .slice r.a2 r.n2 r.c2, .slice r.a3 r.n3 r.c3] W1 := by rw [hW1]; exact BoxL.made W _ _
 have hz1 : W1.heap.size = W.heap.size + 1 := by rw [hW1, World.size_alloc]
 obtain ⟨W2, hW2⟩ : ∃ W2, W2 = W1.alloc (.cells #[.int .i64 0, .int .i64 0, .slice none 0 0, .slice none 0 0] 29) := ⟨_, rfl⟩
 have hS2 : Since W1 W2 := by rw [hW2]; exact Since.alloc (Below.refl _ _) _
 have hX2 : BoxL (W.heap.size + 1) [.int .i64 0, .int .i64 0, .slice none 0 0, .slice none 0 0] W2 := by rw [hW2, ← hz1]; exact BoxL.made W1 _ _
 have hz2 : W2.heap.size = W.heap.size + 1 + 1 := by rw [hW2, World.size_alloc, hz1]
 have hS02 : Since W W2 := Since.step hS1 hS2
 have hF2 : FSr (fun k => (S0 k ∧ k < W.heap.size) ∧ k < W2.heap.size) W2 t r := FSr.keep (S' := fun k => S0 k ∧ k < W.heap.size) h ⟨hS02.size, fun b _ hl => hS02.block b hl⟩ fun b hl hb => ⟨hb, hl⟩
 obtain ⟨W3, hW3⟩ : ∃ W3, W3 = put4 W2 (W.heap.size + 1) (.int .i64 6) (.int .i64 0) (.slice none 0 0) (.slice (some ⟨W.heap.size + 1 + 1, 0, none⟩) 1 1) := ⟨_, rfl⟩
 have hz3 : W3.heap.size = W.heap.size + 1 + 1 := by rw [hW3]; unfold put4; simp only [World.size_setCell]; exact hz2
 have hF3 : FSr (fun k => (S0 k ∧ k < W.heap.size) ∧ k < W3.heap.size) W3 t r := by
  refine FSr.keep (S' := fun k => S0 k ∧ k < W.heap.size) hF2 ?_ fun b _ h => h.1
  rw [hW3]
  exact put4_keep _ _ _ _ _ _ fun k h => by have := h.1.2; omega
 have hB3 : Below W.heap.size W W3 := by rw [hW3]; exact put4_below hS02 (by omega) _ _ _ _
 have hF4 := one_kid (S' := fun k => S0 k ∨ W.heap.size ≤ k) hF3 6 0 29 (fun b _ hb => .inl hb.1.1) (.inr (by rw [hz3]; omega))
 have hB4 : Below W.heap.size W (W3.alloc (.cells #[.int .i64 r.op, .int .i64 r.n, .slice r.a2 r.n2 r.c2, .slice r.a3 r.n3 r.c3] 29)) := hB3.alloc hB3.size _
 have hfin : FoOut S0 (.mk 6 0 [] [t]) W (.returned (.agg #[.int .i64 6, .int .i64 0, .slice none 0 0, .slice (some ⟨W3.heap.size, 0, none⟩) 1 1])) (W3.alloc (.cells #[.int .i64 r.op, .int .i64 r.n, .slice r.a2 r.n2 r.c2, .slice r.a3 r.n3 r.c3] 29)) := ⟨_, rfl, Lib.hid hF4, Lib.hid hB4⟩
 rw [hz3, hW3] at hfin
 unfold put4 at hfin
 have hlt : W.heap.size + 1 < W2.heap.size := by omega
 obtain ⟨x0, x1, x2, x3, f0, f1, f2, f3, -⟩ := hX2.all4
 obtain ⟨o0, o1, o2, o3, -⟩ := (hX1.keep hS2).open4
 have HF := Lib.hid hfin
 obtain ⟨op, n, a2, n2, c2, a3, n3, c3⟩ := r
 simp only at *
 clear hfin hF2 hF3 hF4 hB3 hB4 hz3 hW3 hS02 hX1 hX2 hS1 hS2 h
 go_enter Tryz.func41, Tryz.ntmps41
 go_upto_region 1 with (fail)
 rw [← hW1, ← hW2]
 clear hW1 hW2
 go_wp2
 exact bodyPost_ret (v := .agg #[.int .i64 6, .int .i64 0, .slice none 0 0, .slice (some ⟨W.heap.size + 1 + 1, 0, none⟩) 1 1]) (by simp [results, Tryz.results41, go_sem, World.cell?_alloc_past, World.size_setCell, hlt, x0, x1, x2, x3]) rfl HF.out
set_option maxHeartbeats 4000000 in
set_option maxRecDepth 100000 in
theorem gnot_any {S0 : Nat → Prop} (t : Fo) (r : Fr) (W : World) (h : FSr S0 W t r) :
  Calls Tryz.prog 124 #[.agg #[.int .i64 r.op, .int .i64 r.n, .slice r.a2 r.n2 r.c2, .slice r.a3 r.n3 r.c3]] W (FoOut S0 (.mk 6 0 [] [t]) W) := by
 obtain ⟨W1, hW1⟩ : ∃ W1, W1 = W.alloc (.cells #[.int .i64 r.op, .int .i64 r.n, .slice r.a2 r.n2 r.c2, .slice r.a3 r.n3 r.c3] 29) := ⟨_, rfl⟩
 have hS1 : Since W W1 := by rw [hW1]; exact Since.alloc (Below.refl _ _) _
 have hX1 : BoxL W.heap.size [.int .i64 r.op, .int .i64 r.n, .slice r.a2 r.n2 r.c2, .slice r.a3 r.n3 r.c3] W1 := by rw [hW1]; exact BoxL.made W _ _
 have hz1 : W1.heap.size = W.heap.size + 1 := by rw [hW1, World.size_alloc]
 obtain ⟨W2, hW2⟩ : ∃ W2, W2 = W1.alloc (.cells #[.int .i64 0, .int .i64 0, .slice none 0 0, .slice none 0 0] 29) := ⟨_, rfl⟩
 have hS2 : Since W1 W2 := by rw [hW2]; exact Since.alloc (Below.refl _ _) _
 have hX2 : BoxL (W.heap.size + 1) [.int .i64 0, .int .i64 0, .slice none 0 0, .slice none 0 0] W2 := by rw [hW2, ← hz1]; exact BoxL.made W1 _ _
 have hz2 : W2.heap.size = W.heap.size + 1 + 1 := by rw [hW2, World.size_alloc, hz1]
 have hS02 : Since W W2 := Since.step hS1 hS2
 have hF2 : FSr (fun k => (S0 k ∧ k < W.heap.size) ∧ k < W2.heap.size) W2 t r := FSr.keep (S' := fun k => S0 k ∧ k < W.heap.size) h ⟨hS02.size, fun b _ hl => hS02.block b hl⟩ fun b hl hb => ⟨hb, hl⟩
 obtain ⟨W3, hW3⟩ : ∃ W3, W3 = put4 W2 (W.heap.size + 1) (.int .i64 6) (.int .i64 0) (.slice none 0 0) (.slice (some ⟨W.heap.size + 1 + 1, 0, none⟩) 1 1) := ⟨_, rfl⟩
 have hz3 : W3.heap.size = W.heap.size + 1 + 1 := by rw [hW3]; unfold put4; simp only [World.size_setCell]; exact hz2
 have hF3 : FSr (fun k => (S0 k ∧ k < W.heap.size) ∧ k < W3.heap.size) W3 t r := by
  refine FSr.keep (S' := fun k => S0 k ∧ k < W.heap.size) hF2 ?_ fun b _ h => h.1
  rw [hW3]
  exact put4_keep _ _ _ _ _ _ fun k h => by have := h.1.2; omega
 have hB3 : Below W.heap.size W W3 := by rw [hW3]; exact put4_below hS02 (by omega) _ _ _ _
 have hF4 := one_kid (S' := fun k => S0 k ∨ W.heap.size ≤ k) hF3 6 0 29 (fun b _ hb => .inl hb.1.1) (.inr (by rw [hz3]; omega))
 have hB4 : Below W.heap.size W (W3.alloc (.cells #[.int .i64 r.op, .int .i64 r.n, .slice r.a2 r.n2 r.c2, .slice r.a3 r.n3 r.c3] 29)) := hB3.alloc hB3.size _
 have hfin : FoOut S0 (.mk 6 0 [] [t]) W (.returned (.agg #[.int .i64 6, .int .i64 0, .slice none 0 0, .slice (some ⟨W3.heap.size, 0, none⟩) 1 1])) (W3.alloc (.cells #[.int .i64 r.op, .int .i64 r.n, .slice r.a2 r.n2 r.c2, .slice r.a3 r.n3 r.c3] 29)) := ⟨_, rfl, Lib.hid hF4, Lib.hid hB4⟩
 rw [hz3, hW3] at hfin
 unfold put4 at hfin
 have hlt : W.heap.size + 1 < W2.heap.size := by omega
 obtain ⟨x0, x1, x2, x3, f0, f1, f2, f3, -⟩ := hX2.all4
 obtain ⟨o0, o1, o2, o3, -⟩ := (hX1.keep hS2).open4
 have HF := Lib.hid hfin
 obtain ⟨op, n, a2, n2, c2, a3, n3, c3⟩ := r
 simp only at *
 clear hfin hF2 hF3 hF4 hB3 hB4 hz3 hW3 hS02 hX1 hX2 hS1 hS2 h
 go_enter Tryz.func124, Tryz.ntmps124
 go_upto_region 1 with (fail)
 rw [← hW1, ← hW2]
 clear hW1 hW2
 go_wp2
 exact bodyPost_ret (v := .agg #[.int .i64 6, .int .i64 0, .slice none 0 0, .slice (some ⟨W.heap.size + 1 + 1, 0, none⟩) 1 1]) (by simp [results, Tryz.results124, go_sem, World.cell?_alloc_past, World.size_setCell, hlt, x0, x1, x2, x3]) rfl HF.out
end Go.Proofs.YtgnloodmbgdgdaaGreat
