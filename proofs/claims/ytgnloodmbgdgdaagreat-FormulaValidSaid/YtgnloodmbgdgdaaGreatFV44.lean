import Derived.Test.YtgnloodmbgdgdaaGreatFV43
import Derived.Test.YtgnloodmbgdgdaaGreatFV22
namespace Go.Proofs.YtgnloodmbgdgdaaGreat
open Go.RowKit Go.Shelf
theorem tab_get {g : Nat} {W1 wr : World} {L : List Fo} (h : FRow g W1 L g 0) (hg : g < W1.heap.size) (hS : Since W1 wr) {k : Nat} {t : Fo} (ht : L[k]? = some t) :
  ∃ a2 n2 c2 a3 n3 c3, wr.cell? ⟨g, k * 4, none⟩ = some (.int .i64 t.op) ∧ wr.cell? ⟨g, k * 4 + 1, none⟩ = some (.int .i64 t.n) ∧ wr.cell? ⟨g, k * 4 + 2, none⟩ = some (.slice a2 n2 c2) ∧ wr.cell? ⟨g, k * 4 + 3, none⟩ = some (.slice a3 n3 c3) ∧ FAt wr.heap.size wr t (.slice a2 n2 c2) (.slice a3 n3 c3) := by
 obtain ⟨c, d, q0, q1, q2, q3, hF⟩ := FRow.get L h k t ht
 rw [Nat.zero_add] at q0 q1 q2 q3
 obtain ⟨a2, c2, a3, c3, rfl, rfl, -⟩ := hF.shape
 have hB : Below g W1 wr := Below.mono hS (Nat.le_of_lt hg)
 exact ⟨_, _, _, _, _, _, Since.cell hS q0, Since.cell hS q1, Since.cell hS q2, Since.cell hS q3, (hF.low hB).mono (Nat.le_trans (Nat.le_of_lt hg) hS.size)⟩
set_option maxHeartbeats 16000000 in
set_option maxRecDepth 100000 in
theorem law_valid7 (a0 : Option Addr) (len0 cap0 : Nat) (z0 : List Int) (a1 a2 a3 : Int) (w : World) (w0 : Came .i64 w a0 len0 cap0 z0) (w1 : (Lit.int .i64 a1).wf = true) (w2 : (Lit.int .i64 a2).wf = true) (w3 : (Lit.int .i64 a3).wf = true) :
  Calls Tryz.prog 3 #[.slice a0 len0 cap0, .int .i64 a1, .int .i64 a2, .int .i64 a3] w fun e w' => e = .returned (.bool true) ∧ Below w.heap.size w w' := by
 obtain ⟨zs, hzs⟩ : ∃ zs, zs = z0.take len0 := ⟨_, rfl⟩
 have hE := w0.els
 have hW : Wfs zs := fun z hz => w0.wf z (List.mem_of_mem_take (hzs ▸ hz))
 rw [← hzs] at hE
 have K0 := Lib.hid (lsome_any zs hW 6 (by decide) (by decide) a1 a2 a3 _ w hE (i64_of_wf w1) (i64_of_wf w2) (i64_of_wf w3))
 have hok := some_ok zs 6 a1 a2 a3 (by decide) (by decide) (i64_of_wf w3)
 have HV : Hid (validF (some1 zs 6) = 0) := Lib.hid (vF (by have := hok.left; omega) (by have := hok.deep; omega) hok.good)
 generalize some1 zs 6 = t1 at *
 generalize some2 zs 6 a1 a2 a3 = t2 at *
 generalize some3 zs 6 a1 a2 a3 = t3 at *
 have HOK : Hid (∀ t ∈ [t1, t2, t3], t.size ≤ 2000 ∧ t.wf) := Lib.hid fun t ht => by
  rcases List.mem_cons.1 ht with rfl | ht
  ·exact ⟨hok.s1, Fo.wf_of (by decide) _ hok.m1⟩
  rcases List.mem_cons.1 ht with rfl | ht
  ·exact ⟨hok.s2, Fo.wf_of (by decide) _ hok.m2⟩
  ·rw [List.mem_singleton.1 ht]
   exact ⟨hok.s3, Fo.wf_of (by decide) _ hok.m3⟩
 have KL := Lib.hid fun W => lives07_any W
 clear w0 w1 w2 w3 hok hE hW hzs
 go_enter Tryz.func3, Tryz.ntmps3
 go_wp2_with fail
 refine K0.out.mono ?_
 rintro e W1 ⟨g, rfl, hwg, hg, hR, hB⟩
 have HS0 := Lib.hid hB.out
 obtain ⟨b2, m2, d2, b3, m3, d3, q0, q1, q2, q3, hF⟩ := tab_get hR.out hg.out (since_r W1) (k := 0) (t := t1) rfl
 have KV := Lib.hid (fvalid_any t1 (by have := (HOK.out t1 (List.mem_cons_self ..)).1; omega) (HOK.out t1 (List.mem_cons_self ..)).2 _ _ W1 hF)
 rw [HV.out] at KV
 simp only [Nat.zero_mul, Nat.zero_add] at q0 q1 q2 q3
 clear hF K0 HV hB
 go_wp2_with fail
 refine KV.out.mono ?_
 rintro e W2 ⟨rfl, hB2⟩
 have HS2 := Lib.hid (show Since W1 W2 from hB2)
 clear hB2 q0 q1 q2 q3 KV
 go_wp2
 go_loopw [10] (fun x wr => ∃ k : Nat, k ≤ 3 ∧ x = .int .i64 k ∧ Hid (Since W1 wr)) (fun x _ => 3 - (intOf x).toNat)
 case atStart => exact ⟨0, by omega, rfl, HS2⟩
 case round =>
  clear HS2
  obtain ⟨k, hk, rfl, hS⟩ := hrel
  by_cases hlt : k < 3
  ·have j1 : (k : Int) < 3 := by omega
   have j0 : (0 : Int) ≤ (k : Int) := by omega
   have i8 : IntKind.i64.wrap ((k : Int) + 1) = ((k + 1 : Nat) : Int) := by rw [IntWalk.i64_in _ (by omega)]; omega
   obtain ⟨t, ht⟩ : ∃ t, [t1, t2, t3][k]? = some t := ⟨_, List.getElem?_eq_getElem (by simpa using hlt)⟩
   have hto := HOK.out t (List.mem_of_getElem? ht)
   obtain ⟨b2, m2, d2, b3, m3, d3, p0, p1, p2, p3, hF⟩ := tab_get hR.out hg.out hS.out ht
   have HF := Lib.hid fun W (h : Since wr W) => FAt.below h hF
   have KA := Lib.hid fun W (h : Since wr W) => gvalidF_any t (by omega) hto.2 _ _ W (HF.out W h)
   have KB := Lib.hid fun W (h : Since wr W) => fvalid_any t (by omega) hto.2 _ _ W (HF.out W h)
   have KC := Lib.hid fun W (h : Since wr W) => gsize_any t (by omega) hto.2 _ _ W (HF.out W h)
   have KD := Lib.hid fun W (h : Since wr W) => fsize_any t.size t (Nat.le_refl _) (by omega) _ _ W (HF.out W h)
   have KE := Lib.hid fun W (h : Since wr W) => gdeep_any t (by omega) hto.2 _ _ W (HF.out W h)
   have KG := Lib.hid fun W (h : Since wr W) => fdeep_any t.size t (Nat.le_refl _) (by omega) _ _ W (HF.out W h)
   generalize validF t = vv at *
   generalize (t.size : Int) = zz at *
   generalize (t.deep : Int) = dd at *
   generalize t.op = o1 at *
   generalize t.n = o2 at *
   clear ht hto hF HF
   have hd : Since wr wr.drew := since_d (since_r _)
   go_upto_region 7 with (fail)
   refine wp_region_noPanic ?_
   refine wp_region_held_drew (S := fun w' => w'.cell? ⟨g, k * 4, none⟩ = some (.int .i64 o1) ∧ w'.cell? ⟨g, k * 4 + 1, none⟩ = some (.int .i64 o2) ∧ w'.cell? ⟨g, k * 4 + 2, none⟩ = some (.slice b2 m2 d2) ∧ w'.cell? ⟨g, k * 4 + 3, none⟩ = some (.slice b3 m3 d3)) (by kernel_rfl) ⟨hd.cell p0, hd.cell p1, hd.cell p2, hd.cell p3⟩ (fun hHeld => ?_)
   refine wpAnyH_take (i := 0) (oi := ⟨some 27, Op.move (Operand.tmp 9), 23, _, _, none⟩) (v := ?_) rfl (by kernel_rfl) (by kernel_rfl) (by kernel_rfl) (fun _ _ _ h => h) (Or.inl ⟨by rfl, ?_⟩) (by assumption) ?_
   rotate_left 1
   ·(intro w hSw; (try dsimp only at hSw); go_simp; first | done | with_reducible rfl)
   try simp only [Act.put, List.setIfInBounds_toArray, List.set_cons_zero, List.set_cons_succ]
   refine wpAnyH_take (i := 1) (oi := ⟨some 28, Op.move (Operand.tmp 10), 3, _, _, none⟩) (v := ?_) rfl (by kernel_rfl) (by kernel_rfl) (by kernel_rfl) (fun _ _ _ h => h) (Or.inl ⟨by rfl, ?_⟩) (by assumption) ?_
   rotate_left 1
   ·(intro w hSw; (try dsimp only at hSw); go_simp; first | done | with_reducible rfl)
   try simp only [Act.put, List.setIfInBounds_toArray, List.set_cons_zero, List.set_cons_succ]
   refine wpAnyH_take (i := 2) (oi := ⟨some 29, Op.indexAddr 23 (Operand.tmp 27) (Operand.tmp 28), 0, _, _, none⟩) (v := ?_) rfl (by kernel_rfl) (by kernel_rfl) (by kernel_rfl) (fun _ _ _ h => h) (Or.inl ⟨by rfl, ?_⟩) (by assumption) ?_
   rotate_left 1
   ·(intro w hSw; (try dsimp only at hSw); go_simp; first | done | with_reducible rfl)
   try simp only [Act.put, List.setIfInBounds_toArray, List.set_cons_zero, List.set_cons_succ]
   refine wpAnyH_take (i := 3) (oi := ⟨some 30, Op.load 29 (Operand.tmp 29), 29, _, _, none⟩) (v := ?_) rfl (by kernel_rfl) (by kernel_rfl) (by kernel_rfl) (fun _ _ _ h => h) (Or.inl ⟨by rfl, ?_⟩) (by assumption) ?_
   rotate_left 1
   ·(intro w hSw; (try dsimp only at hSw); go_simp; first | done | with_reducible rfl)
   try simp only [Act.put, List.setIfInBounds_toArray, List.set_cons_zero, List.set_cons_succ]
   refine wpAnyH_take (i := 5) (oi := ⟨some 32, Op.move (Operand.tmp 9), 23, _, _, none⟩) (v := ?_) rfl (by kernel_rfl) (by kernel_rfl) (by kernel_rfl) (fun _ _ _ h => h) (Or.inl ⟨by rfl, ?_⟩) (by assumption) ?_
   rotate_left 1
   ·(intro w hSw; (try dsimp only at hSw); go_simp; first | done | with_reducible rfl)
   try simp only [Act.put, List.setIfInBounds_toArray, List.set_cons_zero, List.set_cons_succ]
   refine wpAnyH_take (i := 6) (oi := ⟨some 33, Op.move (Operand.tmp 10), 3, _, _, none⟩) (v := ?_) rfl (by kernel_rfl) (by kernel_rfl) (by kernel_rfl) (fun _ _ _ h => h) (Or.inl ⟨by rfl, ?_⟩) (by assumption) ?_
   rotate_left 1
   ·(intro w hSw; (try dsimp only at hSw); go_simp; first | done | with_reducible rfl)
   try simp only [Act.put, List.setIfInBounds_toArray, List.set_cons_zero, List.set_cons_succ]
   refine wpAnyH_take (i := 7) (oi := ⟨some 34, Op.indexAddr 23 (Operand.tmp 32) (Operand.tmp 33), 0, _, _, none⟩) (v := ?_) rfl (by kernel_rfl) (by kernel_rfl) (by kernel_rfl) (fun _ _ _ h => h) (Or.inl ⟨by rfl, ?_⟩) (by assumption) ?_
   rotate_left 1
   ·(intro w hSw; (try dsimp only at hSw); go_simp; first | done | with_reducible rfl)
   try simp only [Act.put, List.setIfInBounds_toArray, List.set_cons_zero, List.set_cons_succ]
   refine wpAnyH_take (i := 8) (oi := ⟨some 35, Op.load 29 (Operand.tmp 34), 29, _, _, none⟩) (v := ?_) rfl (by kernel_rfl) (by kernel_rfl) (by kernel_rfl) (fun _ _ _ h => h) (Or.inl ⟨by rfl, ?_⟩) (by assumption) ?_
   rotate_left 1
   ·(intro w hSw; (try dsimp only at hSw); go_simp; first | done | with_reducible rfl)
   try simp only [Act.put, List.setIfInBounds_toArray, List.set_cons_zero, List.set_cons_succ]
   refine wpAnyH_ready (rs := [4]) (by kernel_rfl) (by simp) ?_
   refine AllReadyH.cons (o := ⟨some 31, Op.call { callee := Callee.value (Operand.func 13), args := #[Operand.tmp 30], argTypes := #[29] }, 25, _, _, none⟩) rfl (fun K hK => ?_) AllReadyH.nil
   go_simp
   go_at_call 13
   refine (KA.out _ hd).mono ?_
   rintro e v4 ⟨rfl, hr⟩
   have h4 : Since wr v4 := Since.step hd hr
   clear hr
   try go_wp2_with fail
   refine hK.out _ _ ?_ (fun hHeld => ?_)
   ·exact ⟨h4.cell p0, h4.cell p1, h4.cell p2, h4.cell p3⟩
   clear hK K
   try simp only [Act.put, List.setIfInBounds_toArray, List.set_cons_zero, List.set_cons_succ]
   refine wpAnyH_ready (rs := [9]) (by kernel_rfl) (by simp) ?_
   refine AllReadyH.cons (o := ⟨some 36, Op.call { callee := Callee.value (Operand.func 12), args := #[Operand.tmp 35], argTypes := #[29] }, 25, _, _, none⟩) rfl (fun K hK => ?_) AllReadyH.nil
   go_simp
   go_at_call 12
   refine (KB.out _ h4).mono ?_
   rintro e v5 ⟨rfl, hr⟩
   have h5 : Since wr v5 := Since.step h4 hr
   clear hr
   try go_wp2_with fail
   refine hK.out _ _ ?_ (fun hHeld => ?_)
   ·exact ⟨h5.cell p0, h5.cell p1, h5.cell p2, h5.cell p3⟩
   clear hK K
   try simp only [Act.put, List.setIfInBounds_toArray, List.set_cons_zero, List.set_cons_succ]
   refine wpAnyH_take (i := 10) (oi := ⟨some 37, Op.binOp BinOp.neq 25 (Operand.tmp 31) (Operand.tmp 36) 25, 4, _, _, none⟩) (v := ?_) rfl (by kernel_rfl) (by kernel_rfl) (by kernel_rfl) (fun _ _ _ h => h) (Or.inl ⟨by rfl, ?_⟩) (by assumption) ?_
   rotate_left 1
   ·(intro w hSw; (try dsimp only at hSw); go_simp; first | done | with_reducible rfl)
   try simp only [Act.put, List.setIfInBounds_toArray, List.set_cons_zero, List.set_cons_succ]
   refine wpAnyH_take (i := 11) (oi := ⟨some 38, Op.move (Operand.tmp 37), 4, _, _, none⟩) (v := ?_) rfl (by kernel_rfl) (by kernel_rfl) (by kernel_rfl) (fun _ _ _ h => h) (Or.inl ⟨by rfl, ?_⟩) (by assumption) ?_
   rotate_left 1
   ·(intro w hSw; (try dsimp only at hSw); go_simp; first | done | with_reducible rfl)
   try simp only [Act.put, List.setIfInBounds_toArray, List.set_cons_zero, List.set_cons_succ]
   refine wpAnyH_take (i := 12) (oi := ⟨some 39, Op.move (Operand.tmp 9), 23, _, _, some (11, false)⟩) (v := ?_) rfl (by kernel_rfl) (by kernel_rfl) (by kernel_rfl) (fun _ _ _ h => h) (Or.inl ⟨by rfl, ?_⟩) (by assumption) ?_
   rotate_left 1
   ·(intro w hSw; (try dsimp only at hSw); go_simp; first | done | with_reducible rfl)
   try simp only [Act.put, List.setIfInBounds_toArray, List.set_cons_zero, List.set_cons_succ]
   refine wpAnyH_take (i := 13) (oi := ⟨some 40, Op.move (Operand.tmp 10), 3, _, _, some (11, false)⟩) (v := ?_) rfl (by kernel_rfl) (by kernel_rfl) (by kernel_rfl) (fun _ _ _ h => h) (Or.inl ⟨by rfl, ?_⟩) (by assumption) ?_
   rotate_left 1
   ·(intro w hSw; (try dsimp only at hSw); go_simp; first | done | with_reducible rfl)
   try simp only [Act.put, List.setIfInBounds_toArray, List.set_cons_zero, List.set_cons_succ]
   refine wpAnyH_take (i := 14) (oi := ⟨some 41, Op.indexAddr 23 (Operand.tmp 39) (Operand.tmp 40), 0, _, _, some (11, false)⟩) (v := ?_) rfl (by kernel_rfl) (by kernel_rfl) (by kernel_rfl) (fun _ _ _ h => h) (Or.inl ⟨by rfl, ?_⟩) (by assumption) ?_
   rotate_left 1
   ·(intro w hSw; (try dsimp only at hSw); go_simp; first | done | with_reducible rfl)
   try simp only [Act.put, List.setIfInBounds_toArray, List.set_cons_zero, List.set_cons_succ]
   refine wpAnyH_take (i := 15) (oi := ⟨some 42, Op.load 29 (Operand.tmp 41), 29, _, _, some (11, false)⟩) (v := ?_) rfl (by kernel_rfl) (by kernel_rfl) (by kernel_rfl) (fun _ _ _ h => h) (Or.inl ⟨by rfl, ?_⟩) (by assumption) ?_
   rotate_left 1
   ·(intro w hSw; (try dsimp only at hSw); go_simp; first | done | with_reducible rfl)
   try simp only [Act.put, List.setIfInBounds_toArray, List.set_cons_zero, List.set_cons_succ]
   refine wpAnyH_take (i := 17) (oi := ⟨some 44, Op.move (Operand.tmp 9), 23, _, _, some (11, false)⟩) (v := ?_) rfl (by kernel_rfl) (by kernel_rfl) (by kernel_rfl) (fun _ _ _ h => h) (Or.inl ⟨by rfl, ?_⟩) (by assumption) ?_
   rotate_left 1
   ·(intro w hSw; (try dsimp only at hSw); go_simp; first | done | with_reducible rfl)
   try simp only [Act.put, List.setIfInBounds_toArray, List.set_cons_zero, List.set_cons_succ]
   refine wpAnyH_take (i := 18) (oi := ⟨some 45, Op.move (Operand.tmp 10), 3, _, _, some (11, false)⟩) (v := ?_) rfl (by kernel_rfl) (by kernel_rfl) (by kernel_rfl) (fun _ _ _ h => h) (Or.inl ⟨by rfl, ?_⟩) (by assumption) ?_
   rotate_left 1
   ·(intro w hSw; (try dsimp only at hSw); go_simp; first | done | with_reducible rfl)
   try simp only [Act.put, List.setIfInBounds_toArray, List.set_cons_zero, List.set_cons_succ]
   refine wpAnyH_take (i := 19) (oi := ⟨some 46, Op.indexAddr 23 (Operand.tmp 44) (Operand.tmp 45), 0, _, _, some (11, false)⟩) (v := ?_) rfl (by kernel_rfl) (by kernel_rfl) (by kernel_rfl) (fun _ _ _ h => h) (Or.inl ⟨by rfl, ?_⟩) (by assumption) ?_
   rotate_left 1
   ·(intro w hSw; (try dsimp only at hSw); go_simp; first | done | with_reducible rfl)
   try simp only [Act.put, List.setIfInBounds_toArray, List.set_cons_zero, List.set_cons_succ]
   refine wpAnyH_take (i := 20) (oi := ⟨some 47, Op.load 29 (Operand.tmp 46), 29, _, _, some (11, false)⟩) (v := ?_) rfl (by kernel_rfl) (by kernel_rfl) (by kernel_rfl) (fun _ _ _ h => h) (Or.inl ⟨by rfl, ?_⟩) (by assumption) ?_
   rotate_left 1
   ·(intro w hSw; (try dsimp only at hSw); go_simp; first | done | with_reducible rfl)
   try simp only [Act.put, List.setIfInBounds_toArray, List.set_cons_zero, List.set_cons_succ]
   refine wpAnyH_ready (rs := [16]) (by kernel_rfl) (by simp) ?_
   refine AllReadyH.cons (o := ⟨some 43, Op.call { callee := Callee.value (Operand.func 14), args := #[Operand.tmp 42], argTypes := #[29] }, 3, _, _, some (11, false)⟩) rfl (fun K hK => ?_) AllReadyH.nil
   go_simp
   go_at_call 14
   refine (KC.out _ h5).mono ?_
   rintro e v6 ⟨rfl, hr⟩
   have h6 : Since wr v6 := Since.step h5 hr
   clear hr
   try go_wp2_with fail
   refine hK.out _ _ ?_ (fun hHeld => ?_)
   ·exact ⟨h6.cell p0, h6.cell p1, h6.cell p2, h6.cell p3⟩
   clear hK K
   try simp only [Act.put, List.setIfInBounds_toArray, List.set_cons_zero, List.set_cons_succ]
   refine wpAnyH_ready (rs := [21]) (by kernel_rfl) (by simp) ?_
   refine AllReadyH.cons (o := ⟨some 48, Op.call { callee := Callee.value (Operand.func 15), args := #[Operand.tmp 47], argTypes := #[29] }, 3, _, _, some (11, false)⟩) rfl (fun K hK => ?_) AllReadyH.nil
   go_simp
   go_at_call 15
   refine (KD.out _ h6).mono ?_
   rintro e v7 ⟨rfl, hr⟩
   have h7 : Since wr v7 := Since.step h6 hr
   clear hr
   try go_wp2_with fail
   refine hK.out _ _ ?_ (fun hHeld => ?_)
   ·exact ⟨h7.cell p0, h7.cell p1, h7.cell p2, h7.cell p3⟩
   clear hK K
   try simp only [Act.put, List.setIfInBounds_toArray, List.set_cons_zero, List.set_cons_succ]
   refine wpAnyH_take (i := 22) (oi := ⟨some 49, Op.binOp BinOp.neq 3 (Operand.tmp 43) (Operand.tmp 48) 3, 4, _, _, some (11, false)⟩) (v := ?_) rfl (by kernel_rfl) (by kernel_rfl) (by kernel_rfl) (fun _ _ _ h => h) (Or.inl ⟨by rfl, ?_⟩) (by assumption) ?_
   rotate_left 1
   ·(intro w hSw; (try dsimp only at hSw); go_simp; first | done | with_reducible rfl)
   try simp only [Act.put, List.setIfInBounds_toArray, List.set_cons_zero, List.set_cons_succ]
   refine wpAnyH_take (i := 23) (oi := ⟨some 50, Op.pick (Operand.tmp 38) (Operand.const (Value.bool true)) (Operand.tmp 49), 4, _, _, none⟩) (v := ?_) rfl (by kernel_rfl) (by kernel_rfl) (by kernel_rfl) (fun _ _ _ h => h) (Or.inl ⟨by rfl, ?_⟩) (by assumption) ?_
   rotate_left 1
   ·(intro w hSw; (try dsimp only at hSw); go_simp; first | done | with_reducible rfl)
   try simp only [Act.put, List.setIfInBounds_toArray, List.set_cons_zero, List.set_cons_succ]
   refine wpAnyH_take (i := 24) (oi := ⟨some 51, Op.move (Operand.tmp 50), 4, _, _, none⟩) (v := ?_) rfl (by kernel_rfl) (by kernel_rfl) (by kernel_rfl) (fun _ _ _ h => h) (Or.inl ⟨by rfl, ?_⟩) (by assumption) ?_
   rotate_left 1
   ·(intro w hSw; (try dsimp only at hSw); go_simp; first | done | with_reducible rfl)
   try simp only [Act.put, List.setIfInBounds_toArray, List.set_cons_zero, List.set_cons_succ]
   refine wpAnyH_take (i := 25) (oi := ⟨some 52, Op.move (Operand.tmp 9), 23, _, _, some (24, false)⟩) (v := ?_) rfl (by kernel_rfl) (by kernel_rfl) (by kernel_rfl) (fun _ _ _ h => h) (Or.inl ⟨by rfl, ?_⟩) (by assumption) ?_
   rotate_left 1
   ·(intro w hSw; (try dsimp only at hSw); go_simp; first | done | with_reducible rfl)
   try simp only [Act.put, List.setIfInBounds_toArray, List.set_cons_zero, List.set_cons_succ]
   refine wpAnyH_take (i := 26) (oi := ⟨some 53, Op.move (Operand.tmp 10), 3, _, _, some (24, false)⟩) (v := ?_) rfl (by kernel_rfl) (by kernel_rfl) (by kernel_rfl) (fun _ _ _ h => h) (Or.inl ⟨by rfl, ?_⟩) (by assumption) ?_
   rotate_left 1
   ·(intro w hSw; (try dsimp only at hSw); go_simp; first | done | with_reducible rfl)
   try simp only [Act.put, List.setIfInBounds_toArray, List.set_cons_zero, List.set_cons_succ]
   refine wpAnyH_take (i := 27) (oi := ⟨some 54, Op.indexAddr 23 (Operand.tmp 52) (Operand.tmp 53), 0, _, _, some (24, false)⟩) (v := ?_) rfl (by kernel_rfl) (by kernel_rfl) (by kernel_rfl) (fun _ _ _ h => h) (Or.inl ⟨by rfl, ?_⟩) (by assumption) ?_
   rotate_left 1
   ·(intro w hSw; (try dsimp only at hSw); go_simp; first | done | with_reducible rfl)
   try simp only [Act.put, List.setIfInBounds_toArray, List.set_cons_zero, List.set_cons_succ]
   refine wpAnyH_take (i := 28) (oi := ⟨some 55, Op.load 29 (Operand.tmp 54), 29, _, _, some (24, false)⟩) (v := ?_) rfl (by kernel_rfl) (by kernel_rfl) (by kernel_rfl) (fun _ _ _ h => h) (Or.inl ⟨by rfl, ?_⟩) (by assumption) ?_
   rotate_left 1
   ·(intro w hSw; (try dsimp only at hSw); go_simp; first | done | with_reducible rfl)
   try simp only [Act.put, List.setIfInBounds_toArray, List.set_cons_zero, List.set_cons_succ]
   refine wpAnyH_take (i := 30) (oi := ⟨some 57, Op.move (Operand.tmp 9), 23, _, _, some (24, false)⟩) (v := ?_) rfl (by kernel_rfl) (by kernel_rfl) (by kernel_rfl) (fun _ _ _ h => h) (Or.inl ⟨by rfl, ?_⟩) (by assumption) ?_
   rotate_left 1
   ·(intro w hSw; (try dsimp only at hSw); go_simp; first | done | with_reducible rfl)
   try simp only [Act.put, List.setIfInBounds_toArray, List.set_cons_zero, List.set_cons_succ]
   refine wpAnyH_take (i := 31) (oi := ⟨some 58, Op.move (Operand.tmp 10), 3, _, _, some (24, false)⟩) (v := ?_) rfl (by kernel_rfl) (by kernel_rfl) (by kernel_rfl) (fun _ _ _ h => h) (Or.inl ⟨by rfl, ?_⟩) (by assumption) ?_
   rotate_left 1
   ·(intro w hSw; (try dsimp only at hSw); go_simp; first | done | with_reducible rfl)
   try simp only [Act.put, List.setIfInBounds_toArray, List.set_cons_zero, List.set_cons_succ]
   refine wpAnyH_take (i := 32) (oi := ⟨some 59, Op.indexAddr 23 (Operand.tmp 57) (Operand.tmp 58), 0, _, _, some (24, false)⟩) (v := ?_) rfl (by kernel_rfl) (by kernel_rfl) (by kernel_rfl) (fun _ _ _ h => h) (Or.inl ⟨by rfl, ?_⟩) (by assumption) ?_
   rotate_left 1
   ·(intro w hSw; (try dsimp only at hSw); go_simp; first | done | with_reducible rfl)
   try simp only [Act.put, List.setIfInBounds_toArray, List.set_cons_zero, List.set_cons_succ]
   refine wpAnyH_take (i := 33) (oi := ⟨some 60, Op.load 29 (Operand.tmp 59), 29, _, _, some (24, false)⟩) (v := ?_) rfl (by kernel_rfl) (by kernel_rfl) (by kernel_rfl) (fun _ _ _ h => h) (Or.inl ⟨by rfl, ?_⟩) (by assumption) ?_
   rotate_left 1
   ·(intro w hSw; (try dsimp only at hSw); go_simp; first | done | with_reducible rfl)
   try simp only [Act.put, List.setIfInBounds_toArray, List.set_cons_zero, List.set_cons_succ]
   refine wpAnyH_ready (rs := [29]) (by kernel_rfl) (by simp) ?_
   refine AllReadyH.cons (o := ⟨some 56, Op.call { callee := Callee.value (Operand.func 16), args := #[Operand.tmp 55], argTypes := #[29] }, 3, _, _, some (24, false)⟩) rfl (fun K hK => ?_) AllReadyH.nil
   go_simp
   go_at_call 16
   refine (KE.out _ h7).mono ?_
   rintro e v8 ⟨rfl, hr⟩
   have h8 : Since wr v8 := Since.step h7 hr
   clear hr
   try go_wp2_with fail
   refine hK.out _ _ ?_ (fun hHeld => ?_)
   ·exact ⟨h8.cell p0, h8.cell p1, h8.cell p2, h8.cell p3⟩
   clear hK K
   try simp only [Act.put, List.setIfInBounds_toArray, List.set_cons_zero, List.set_cons_succ]
   refine wpAnyH_ready (rs := [34]) (by kernel_rfl) (by simp) ?_
   refine AllReadyH.cons (o := ⟨some 61, Op.call { callee := Callee.value (Operand.func 17), args := #[Operand.tmp 60], argTypes := #[29] }, 3, _, _, some (24, false)⟩) rfl (fun K hK => ?_) AllReadyH.nil
   go_simp
   go_at_call 17
   refine (KG.out _ h8).mono ?_
   rintro e v9 ⟨rfl, hr⟩
   have h9 : Since wr v9 := Since.step h8 hr
   clear hr
   try go_wp2_with fail
   refine hK.out _ _ ?_ (fun hHeld => ?_)
   ·exact ⟨h9.cell p0, h9.cell p1, h9.cell p2, h9.cell p3⟩
   clear hK K
   try simp only [Act.put, List.setIfInBounds_toArray, List.set_cons_zero, List.set_cons_succ]
   refine wpAnyH_take (i := 35) (oi := ⟨some 62, Op.binOp BinOp.neq 3 (Operand.tmp 56) (Operand.tmp 61) 3, 4, _, _, some (24, false)⟩) (v := ?_) rfl (by kernel_rfl) (by kernel_rfl) (by kernel_rfl) (fun _ _ _ h => h) (Or.inl ⟨by rfl, ?_⟩) (by assumption) ?_
   rotate_left 1
   ·(intro w hSw; (try dsimp only at hSw); go_simp; first | done | with_reducible rfl)
   try simp only [Act.put, List.setIfInBounds_toArray, List.set_cons_zero, List.set_cons_succ]
   refine wpAnyH_take (i := 36) (oi := ⟨some 63, Op.pick (Operand.tmp 51) (Operand.const (Value.bool true)) (Operand.tmp 62), 4, _, _, none⟩) (v := ?_) rfl (by kernel_rfl) (by kernel_rfl) (by kernel_rfl) (fun _ _ _ h => h) (Or.inl ⟨by rfl, ?_⟩) (by assumption) ?_
   rotate_left 1
   ·(intro w hSw; (try dsimp only at hSw); go_simp; first | done | with_reducible rfl)
   try simp only [Act.put, List.setIfInBounds_toArray, List.set_cons_zero, List.set_cons_succ]
   refine wpAnyH_done (by kernel_rfl) ?_ _
   refine NoPanic.normal ?_
   have HS9 := Lib.hid (Since.step hS.out h9)
   clear hd h4 h5 h6 h7 h8 h9 p0 p1 p2 p3 KA KB KC KD KE KG hS
   go_wp2
   go_roundw
   case rel => exact ⟨k + 1, by omega, by go_num, HS9⟩
   case measure => simp [intOf] <;> omega
  ·have j1 : ¬ (k : Int) < 3 := by omega
   have HS9 := Lib.hid (Since.step HS0.out hS.out)
   have KL9 := Lib.hid (KL.out wr)
   go_wp2_with fail
   refine KL9.out.mono ?_
   rintro e w9 ⟨rfl, hB9⟩
   have HE := Lib.hid (Since.step HS9.out hB9)
   go_wp2
   go_ret
   exact ⟨rfl, HE.out⟩
end Go.Proofs.YtgnloodmbgdgdaaGreat
