import Derived.Test.YtgnloodmbgdgdaaGreatFB38
import Derived.Test.YtgnloodmbgdgdaaGreatFB13
import Derived.Test.YtgnloodmbgdgdaaGreatFB26
namespace Go.Proofs.YtgnloodmbgdgdaaGreat
open Go.RowKit Go.Shelf
theorem tEx_is {w : World} (T : TypeId) {V : World} (h : Since (w.alloc (.cells #[.int .i64 1] T)) V) : TAt V.heap.size V tEx (.slice (some ⟨w.heap.size, 0, none⟩) 1 1) (.slice none 0 0) (.slice none 0 0) := by
 have h1 := (Els.new .i64 w T [1]).below h
 have hz : w.heap.size < V.heap.size := Nat.lt_of_lt_of_le (by rw [World.size_alloc]; omega) h.size
 exact TAt.of h1 (.inr ⟨w.heap.size, 0, 1, 1, hz, rfl⟩) (.inl ⟨.inl rfl, rfl⟩) (.inl (.inl rfl)) (.inl ⟨.inl rfl, rfl⟩)
theorem tEx_wf : tEx.wf := by
 simp only [tEx, Th.wf, Th.wfs]
 exact ⟨⟨⟨fun z hz => by simp at hz; subst hz; exact ⟨by decide, by decide⟩, by simp⟩, fun v h => by simp at h, by simp⟩, trivial⟩
set_option maxHeartbeats 16000000 in
set_option maxRecDepth 100000 in
theorem lives07_any (w : World) : Calls Tryz.prog 18 #[] w fun e w' => e = .returned (.bool true) ∧ Below w.heap.size w w' := by
 obtain ⟨wa, hwa⟩ : ∃ wa, wa = w.alloc (.cells #[.int .i64 0] 3) := ⟨_, rfl⟩
 have hza : wa.heap.size = w.heap.size + 1 := by rw [hwa, World.size_alloc]
 have hea : Els .i64 wa (.slice (some ⟨w.heap.size, 0, none⟩) 1 1) [0] := by rw [hwa]; exact Els.new .i64 w 3 [0]
 obtain ⟨wb, hwb⟩ : ∃ wb, wb = wa.alloc (.cells #[.slice none 0 0, .slice (some ⟨w.heap.size, 0, none⟩) 1 1] 22) := ⟨_, rfl⟩
 have hle := exL_le (a := w.heap.size) (T := 22) hea hwb
 rw [hza] at hle
 have KN := Lib.hid (newL_any _ wb hle)
 have HS0 := Lib.hid (show Since w wb by rw [hwb, hwa]; exact Since.alloc (Since.alloc (since_r _) _) _)
 have KC := Lib.hid fun (n : Int) (W : World) => class_at n W
 clear hea hle hza
 go_enter Tryz.func18, Tryz.ntmps18
 go_wp2_with fail
 rw [← hwa, ← hwb]
 clear hwa hwb
 refine KN.out.mono ?_
 rintro e w1 ⟨N, rfl, hTx, hB1⟩
 have HS1 := Lib.hid (Since.step HS0.out hB1.out)
 clear hB1 KN HS0
 obtain ⟨w2, hw2⟩ : ∃ w2, w2 = w1.alloc (.cells #[.int .i64 1] 3) := ⟨_, rfl⟩
 have hS2 : Since w1 w2 := by rw [hw2]; exact Since.alloc (since_r _) _
 have hz2 : w2.heap.size = w1.heap.size + 1 := by rw [hw2, World.size_alloc]
 obtain ⟨w3, hw3⟩ : ∃ w3, w3 = w2.alloc (.cells #[.slice (some ⟨w1.heap.size, 0, none⟩) 1 1, .slice none 0 0, .slice none 0 0] 41) := ⟨_, rfl⟩
 have hS3 : Since w2 w3 := by rw [hw3]; exact Since.alloc (since_r _) _
 have hX3 : BoxL w2.heap.size [.slice (some ⟨w1.heap.size, 0, none⟩) 1 1, .slice none 0 0, .slice none 0 0] w3 := by rw [hw3]; exact BoxL.made w2 _ _
 rw [hz2] at hX3
 have HTH := Lib.hid fun (V : World) (h : Since w3 V) => tEx_is (w := w1) 3 (V := V) (by rw [← hw2]; exact Since.step hS3 h)
 have HTX := Lib.hid fun (V : World) (h : Since w3 V) => hTx.out.below (Since.step (Since.step hS2 hS3) h)
 have HS3 := Lib.hid (Since.step HS1.out (Since.step hS2 hS3))
 go_upto_region 5 with (fail)
 rw [← hw2, ← hw3]
 obtain ⟨t0, t1, t2, -⟩ := hX3.open3
 clear hw2 hw3 hS2 hS3 hX3 hz2 hTx HS1
 have hd3 : Since w3 w3.drew := since_d (since_r _)
 refine wp_region_noPanic ?_
 refine wp_region_held_drew (S := fun w' => w'.cell? ⟨w1.heap.size + 1, 0, none⟩ = some (.slice (some ⟨w1.heap.size, 0, none⟩) 1 1) ∧ w'.cell? ⟨w1.heap.size + 1, 1, none⟩ = some (.slice none 0 0) ∧ w'.cell? ⟨w1.heap.size + 1, 2, none⟩ = some (.slice none 0 0)) (by kernel_rfl) ⟨hd3.cell t0, hd3.cell t1, hd3.cell t2⟩ (fun hHeld => ?_)
 refine wpAnyH_take (i := 0) (oi := ⟨some 27, Op.move (Operand.tmp 1), 33, _, _, none⟩) (v := ?_) rfl (by kernel_rfl) (by kernel_rfl) (by kernel_rfl) (fun _ _ _ h => h) (Or.inl ⟨by rfl, ?_⟩) (by assumption) ?_
 rotate_left 1
 ·(intro w hSw; (try dsimp only at hSw); go_simp; first | done | with_reducible rfl)
 try simp only [Act.put, List.setIfInBounds_toArray, List.set_cons_zero, List.set_cons_succ]
 refine wpAnyH_take (i := 2) (oi := ⟨some 29, Op.load 41 (Operand.tmp 3), 41, _, _, none⟩) (v := ?_) rfl (by kernel_rfl) (by kernel_rfl) (by kernel_rfl) (fun _ _ _ h => h) (Or.inl ⟨by rfl, ?_⟩) (by assumption) ?_
 rotate_left 1
 ·(intro w hSw; (try dsimp only at hSw); go_simp; first | done | with_reducible rfl)
 try simp only [Act.put, List.setIfInBounds_toArray, List.set_cons_zero, List.set_cons_succ]
 refine wpAnyH_ready (rs := [1]) (by kernel_rfl) (by simp) ?_
 refine AllReadyH.cons (o := ⟨some 28, Op.call { callee := Callee.value (Operand.func 54), args := #[Operand.const (Value.int IntKind.i64 0)], argTypes := #[3] }, 29, _, _, none⟩) rfl (fun K hK => ?_) AllReadyH.nil
 go_simp
 go_at_call 54
 (with_reducible refine (KC.out _ _).mono ?_)
 rintro e w4 ⟨⟨o4, n4, p4, m4, c4, q4, l4, d4⟩, rfl, hF4, hB4⟩
 have hs4 : Since w3 w4 := Since.step hd3 hB4.out
 try go_wp2_with fail
 refine hK.out _ _ ?_ (fun hHeld => ?_)
 ·exact ⟨hs4.cell t0, hs4.cell t1, hs4.cell t2⟩
 clear hK K
 try simp only [Act.put, List.setIfInBounds_toArray, List.set_cons_zero, List.set_cons_succ]
 have KH := Lib.hid (holds_at N exL (clF 0) ⟨o4, n4, p4, m4, c4, q4, l4, d4⟩ tEx _ _ _ w4 (HTX.out w4 hs4) hF4.out (HTH.out w4 hs4) (Nat.le_trans (sz_cl 0) (by omega)) (wf_cl 0) (by simp [tEx, Th.size, Th.sizes]) tEx_wf)
 rw [hold_ex] at KH
 simp only at KH
 refine wpAnyH_ready (rs := [3]) (by kernel_rfl) (by simp) ?_
 refine AllReadyH.cons (o := { dst := some 30, op := Op.call { callee := Callee.value (Operand.func 23), args := #[Operand.tmp 27, Operand.tmp 28, Operand.tmp 29], argTypes := #[33, 29, 41] }, type := 44, pos := _, after := #[{ on := 0, ground := Ground.data }, { on := 1, ground := Ground.data }, { on := 2, ground := Ground.data }, { on := 1, ground := Ground.chain }], guard := none }) rfl (fun K hK => ?_) AllReadyH.nil
 go_simp
 go_at_call 23
 refine KH.out.mono ?_
 rintro e w5 ⟨rfl, hB5⟩
 have hs5 : Since w3 w5 := Since.step hs4 hB5
 try go_wp2_with fail
 refine hK.out _ _ ?_ (fun hHeld => ?_)
 ·exact ⟨hs5.cell t0, hs5.cell t1, hs5.cell t2⟩
 clear hK K
 try simp only [Act.put, List.setIfInBounds_toArray, List.set_cons_zero, List.set_cons_succ]
 refine wpAnyH_take (i := 4) (oi := { dst := some 26, op := Op.move (Operand.tmp 30), type := 44, pos := _, after := #[{ on := 3, ground := Ground.data }], guard := none }) (v := ?_) rfl (by kernel_rfl) (by kernel_rfl) (by kernel_rfl) (fun _ _ _ h => h) (Or.inl ⟨by rfl, ?_⟩) (by assumption) ?_
 rotate_left 1
 ·(intro w hSw; (try dsimp only at hSw); go_simp; first | done | with_reducible rfl)
 try simp only [Act.put, List.setIfInBounds_toArray, List.set_cons_zero, List.set_cons_succ]
 refine wpAnyH_take (i := 5) (oi := ⟨some 31, Op.extract (Operand.tmp 26) 0, 4, _, _, none⟩) (v := ?_) rfl (by kernel_rfl) (by kernel_rfl) (by kernel_rfl) (fun _ _ _ h => h) (Or.inl ⟨by rfl, ?_⟩) (by assumption) ?_
 rotate_left 1
 ·(intro w hSw; (try dsimp only at hSw); go_simp; first | done | with_reducible rfl)
 try simp only [Act.put, List.setIfInBounds_toArray, List.set_cons_zero, List.set_cons_succ]
 refine wpAnyH_take (i := 6) (oi := ⟨some 32, Op.extract (Operand.tmp 26) 1, 25, _, _, none⟩) (v := ?_) rfl (by kernel_rfl) (by kernel_rfl) (by kernel_rfl) (fun _ _ _ h => h) (Or.inl ⟨by rfl, ?_⟩) (by assumption) ?_
 rotate_left 1
 ·(intro w hSw; (try dsimp only at hSw); go_simp; first | done | with_reducible rfl)
 try simp only [Act.put, List.setIfInBounds_toArray, List.set_cons_zero, List.set_cons_succ]
 refine wpAnyH_take (i := 7) (oi := ⟨some 4, Op.assign (Operand.tmp 31), 4, _, _, none⟩) (v := ?_) rfl (by kernel_rfl) (by kernel_rfl) (by kernel_rfl) (fun _ _ _ h => h) (Or.inl ⟨by rfl, ?_⟩) (by assumption) ?_
 rotate_left 1
 ·(intro w hSw; (try dsimp only at hSw); go_simp; first | done | with_reducible rfl)
 try simp only [Act.put, List.setIfInBounds_toArray, List.set_cons_zero, List.set_cons_succ]
 refine wpAnyH_take (i := 8) (oi := ⟨some 5, Op.assign (Operand.tmp 32), 25, _, _, none⟩) (v := ?_) rfl (by kernel_rfl) (by kernel_rfl) (by kernel_rfl) (fun _ _ _ h => h) (Or.inl ⟨by rfl, ?_⟩) (by assumption) ?_
 rotate_left 1
 ·(intro w hSw; (try dsimp only at hSw); go_simp; first | done | with_reducible rfl)
 try simp only [Act.put, List.setIfInBounds_toArray, List.set_cons_zero, List.set_cons_succ]
 refine wpAnyH_done (by kernel_rfl) ?_ _
 refine NoPanic.normal ?_
 have HS5 := Lib.hid hs5
 have t0 := hs5.cell t0
 have t1 := hs5.cell t1
 have t2 := hs5.cell t2
 clear hd3 hs4 hs5 hB4 hB5 hF4 KH
 go_upto_region 6 with (fail)
 have hd5 : Since w5 w5.drew := since_d (since_r _)
 refine wp_region_noPanic ?_
 refine wp_region_held_drew (S := fun w' => w'.cell? ⟨w1.heap.size + 1, 0, none⟩ = some (.slice (some ⟨w1.heap.size, 0, none⟩) 1 1) ∧ w'.cell? ⟨w1.heap.size + 1, 1, none⟩ = some (.slice none 0 0) ∧ w'.cell? ⟨w1.heap.size + 1, 2, none⟩ = some (.slice none 0 0)) (by kernel_rfl) ⟨hd5.cell t0, hd5.cell t1, hd5.cell t2⟩ (fun hHeld => ?_)
 refine wpAnyH_take (i := 0) (oi := ⟨some 34, Op.move (Operand.tmp 1), 33, _, _, none⟩) (v := ?_) rfl (by kernel_rfl) (by kernel_rfl) (by kernel_rfl) (fun _ _ _ h => h) (Or.inl ⟨by rfl, ?_⟩) (by assumption) ?_
 rotate_left 1
 ·(intro w hSw; (try dsimp only at hSw); go_simp; first | done | with_reducible rfl)
 try simp only [Act.put, List.setIfInBounds_toArray, List.set_cons_zero, List.set_cons_succ]
 refine wpAnyH_take (i := 3) (oi := ⟨some 37, Op.load 41 (Operand.tmp 3), 41, _, _, none⟩) (v := ?_) rfl (by kernel_rfl) (by kernel_rfl) (by kernel_rfl) (fun _ _ _ h => h) (Or.inl ⟨by rfl, ?_⟩) (by assumption) ?_
 rotate_left 1
 ·(intro w hSw; (try dsimp only at hSw); go_simp; first | done | with_reducible rfl)
 try simp only [Act.put, List.setIfInBounds_toArray, List.set_cons_zero, List.set_cons_succ]
 refine wpAnyH_ready (rs := [1]) (by kernel_rfl) (by simp) ?_
 refine AllReadyH.cons (o := ⟨some 35, Op.call { callee := Callee.value (Operand.func 54), args := #[Operand.const (Value.int IntKind.i64 0)], argTypes := #[3] }, 29, _, _, none⟩) rfl (fun K hK => ?_) AllReadyH.nil
 go_simp
 go_at_call 54
 (with_reducible refine (KC.out _ _).mono ?_)
 rintro e w6 ⟨⟨o6, n6, p6, m6, c6, q6, l6, d6⟩, rfl, hF6, hB6⟩
 have hr6 : Since w5 w6 := Since.step hd5 hB6.out
 try go_wp2_with fail
 refine hK.out _ _ ?_ (fun hHeld => ?_)
 ·exact ⟨hr6.cell t0, hr6.cell t1, hr6.cell t2⟩
 clear hK K
 try simp only [Act.put, List.setIfInBounds_toArray, List.set_cons_zero, List.set_cons_succ]
 have KT := Lib.hid (not_at (clF 0) ⟨o6, n6, p6, m6, c6, q6, l6, d6⟩ w6 hF6.out)
 simp only at KT
 refine wpAnyH_ready (rs := [2]) (by kernel_rfl) (by simp) ?_
 refine AllReadyH.cons (o := ⟨some 36, Op.call { callee := Callee.value (Operand.func 41), args := #[Operand.tmp 35], argTypes := #[29] }, 29, _, _, none⟩) rfl (fun K hK => ?_) AllReadyH.nil
 go_simp
 go_at_call 41
 (with_reducible refine (KT.out).mono ?_)
 rintro e w7 ⟨⟨o7, n7, p7, m7, c7, q7, l7, d7⟩, rfl, hF7, hB7⟩
 have hr7 : Since w5 w7 := Since.step hr6 hB7.out
 have hs7 : Since w3 w7 := Since.step HS5.out hr7
 try go_wp2_with fail
 refine hK.out _ _ ?_ (fun hHeld => ?_)
 ·exact ⟨hr7.cell t0, hr7.cell t1, hr7.cell t2⟩
 clear hK K
 try simp only [Act.put, List.setIfInBounds_toArray, List.set_cons_zero, List.set_cons_succ]
 have KH := Lib.hid (holds_at N exL (notF (clF 0)) ⟨o7, n7, p7, m7, c7, q7, l7, d7⟩ tEx _ _ _ w7 (HTX.out w7 hs7) hF7.out (HTH.out w7 hs7) (Nat.le_trans (sz_ncl 0) (by omega)) (wf_ncl 0) (by simp [tEx, Th.size, Th.sizes]) tEx_wf)
 rw [hold_ex2] at KH
 simp only at KH
 refine wpAnyH_ready (rs := [4]) (by kernel_rfl) (by simp) ?_
 refine AllReadyH.cons (o := { dst := some 38, op := Op.call { callee := Callee.value (Operand.func 23), args := #[Operand.tmp 34, Operand.tmp 36, Operand.tmp 37], argTypes := #[33, 29, 41] }, type := 44, pos := _, after := #[{ on := 0, ground := Ground.data }, { on := 2, ground := Ground.data }, { on := 3, ground := Ground.data }, { on := 2, ground := Ground.chain }], guard := none }) rfl (fun K hK => ?_) AllReadyH.nil
 go_simp
 go_at_call 23
 refine KH.out.mono ?_
 rintro e w8 ⟨rfl, hB8⟩
 have hr8 : Since w5 w8 := Since.step hr7 hB8
 try go_wp2_with fail
 refine hK.out _ _ ?_ (fun hHeld => ?_)
 ·exact ⟨hr8.cell t0, hr8.cell t1, hr8.cell t2⟩
 clear hK K
 try simp only [Act.put, List.setIfInBounds_toArray, List.set_cons_zero, List.set_cons_succ]
 refine wpAnyH_take (i := 5) (oi := { dst := some 33, op := Op.move (Operand.tmp 38), type := 44, pos := _, after := #[{ on := 4, ground := Ground.data }], guard := none }) (v := ?_) rfl (by kernel_rfl) (by kernel_rfl) (by kernel_rfl) (fun _ _ _ h => h) (Or.inl ⟨by rfl, ?_⟩) (by assumption) ?_
 rotate_left 1
 ·(intro w hSw; (try dsimp only at hSw); go_simp; first | done | with_reducible rfl)
 try simp only [Act.put, List.setIfInBounds_toArray, List.set_cons_zero, List.set_cons_succ]
 refine wpAnyH_take (i := 6) (oi := ⟨some 39, Op.extract (Operand.tmp 33) 0, 4, _, _, none⟩) (v := ?_) rfl (by kernel_rfl) (by kernel_rfl) (by kernel_rfl) (fun _ _ _ h => h) (Or.inl ⟨by rfl, ?_⟩) (by assumption) ?_
 rotate_left 1
 ·(intro w hSw; (try dsimp only at hSw); go_simp; first | done | with_reducible rfl)
 try simp only [Act.put, List.setIfInBounds_toArray, List.set_cons_zero, List.set_cons_succ]
 refine wpAnyH_take (i := 7) (oi := ⟨some 40, Op.extract (Operand.tmp 33) 1, 25, _, _, none⟩) (v := ?_) rfl (by kernel_rfl) (by kernel_rfl) (by kernel_rfl) (fun _ _ _ h => h) (Or.inl ⟨by rfl, ?_⟩) (by assumption) ?_
 rotate_left 1
 ·(intro w hSw; (try dsimp only at hSw); go_simp; first | done | with_reducible rfl)
 try simp only [Act.put, List.setIfInBounds_toArray, List.set_cons_zero, List.set_cons_succ]
 refine wpAnyH_take (i := 8) (oi := ⟨some 6, Op.assign (Operand.tmp 39), 4, _, _, none⟩) (v := ?_) rfl (by kernel_rfl) (by kernel_rfl) (by kernel_rfl) (fun _ _ _ h => h) (Or.inl ⟨by rfl, ?_⟩) (by assumption) ?_
 rotate_left 1
 ·(intro w hSw; (try dsimp only at hSw); go_simp; first | done | with_reducible rfl)
 try simp only [Act.put, List.setIfInBounds_toArray, List.set_cons_zero, List.set_cons_succ]
 refine wpAnyH_take (i := 9) (oi := ⟨some 7, Op.assign (Operand.tmp 40), 25, _, _, none⟩) (v := ?_) rfl (by kernel_rfl) (by kernel_rfl) (by kernel_rfl) (fun _ _ _ h => h) (Or.inl ⟨by rfl, ?_⟩) (by assumption) ?_
 rotate_left 1
 ·(intro w hSw; (try dsimp only at hSw); go_simp; first | done | with_reducible rfl)
 try simp only [Act.put, List.setIfInBounds_toArray, List.set_cons_zero, List.set_cons_succ]
 refine wpAnyH_done (by kernel_rfl) ?_ _
 refine NoPanic.normal ?_
 have HS8 := Lib.hid (Since.step (Since.step HS3.out HS5.out) hr8)
 clear hd5 hr6 hr7 hs7 hr8 hB6 hB7 hB8 hF6 hF7 KH KT t0 t1 t2 HTX HTH HS5 HS3
 have HB0 := Lib.hid HS8.out
 clear HS8
 have HS8 : Hid (Since w8 w8) := Lib.hid (since_r _)
 go_wp2_with fail
 (with_reducible refine (KC.out _ _).mono ?_)
 rintro e w9 ⟨⟨o9, n9, p9, m9, c9, q9, l9, d9⟩, rfl, hF9, hB9⟩
 have HS9 := Lib.hid (Since.step HS8.out hB9.out)
 clear hB9
 go_wp2_with fail
 (with_reducible refine (KC.out _ _).mono ?_)
 rintro e w10 ⟨⟨o10, n10, p10, m10, c10, q10, l10, d10⟩, rfl, hF10, hB10⟩
 have HS10 := Lib.hid (Since.step HS9.out hB10.out)
 have hF9 := Lib.hid (hF9.out.since hB10.out)
 clear hB10
 have KT := Lib.hid (not_at (clF 1) ⟨o10, n10, p10, m10, c10, q10, l10, d10⟩ w10 hF10.out)
 simp only at KT
 go_wp2_with fail
 (with_reducible refine KT.out.mono ?_)
 rintro e w11 ⟨⟨o11, n11, p11, m11, c11, q11, l11, d11⟩, rfl, hF11, hB11⟩
 clear KT
 have HS11 := Lib.hid (Since.step HS10.out hB11.out)
 have hF9 := Lib.hid (hF9.out.since hB11.out)
 clear hB11
 obtain ⟨w12, hw12⟩ : ∃ v, v = World.alloc w11 (.cells #[.int .i64 o9, .int .i64 n9, .slice p9 m9 c9, .slice q9 l9 d9, .int .i64 o11, .int .i64 n11, .slice p11 m11 c11, .slice q11 l11 d11] 29) := ⟨_, rfl⟩
 have hfl := row_at (W := w11) [⟨o9, n9, p9, m9, c9, q9, l9, d9⟩, ⟨o11, n11, p11, m11, c11, q11, l11, d11⟩] [clF 0, notF (clF 1)] #[.int .i64 o9, .int .i64 n9, .slice p9 m9 c9, .slice q9 l9 d9, .int .i64 o11, .int .i64 n11, .slice p11 m11 c11, .slice q11 l11 d11] 29 rfl rfl (by simp) (fun j r t hr ht => by
  match j with
  | 0 => cases hr; cases ht; exact hF9.out
  | 1 => cases hr; cases ht; exact hF11.out
  | j + 2 => simp at hr)
 rw [← hw12] at hfl
 simp only [List.length_cons, List.length_nil, Nat.zero_add, Nat.reduceAdd] at hfl
 have HS12 := Lib.hid (show Since w8 w12 by rw [hw12]; exact Since.alloc HS11.out _)
 have KT := Lib.hid (of_at 4 _ 2 2 [clF 0, notF (clF 1)] w12 hfl)
 go_wp2_with fail
 rw [← hw12]
 (with_reducible refine KT.out.mono ?_)
 rintro e w13 ⟨⟨o13, n13, p13, m13, c13, q13, l13, d13⟩, rfl, hF13, hB13⟩
 clear KT hfl hw12
 have HS13 := Lib.hid (Since.step HS12.out hB13.out)
 clear hB13
 clear hF9 hF10 hF11
 have KT := Lib.hid (not_at (.mk 4 0 [] [clF 0, notF (clF 1)]) ⟨o13, n13, p13, m13, c13, q13, l13, d13⟩ w13 hF13.out)
 simp only at KT
 go_wp2_with fail
 (with_reducible refine KT.out.mono ?_)
 rintro e w14 ⟨⟨o14, n14, p14, m14, c14, q14, l14, d14⟩, rfl, hF14, hB14⟩
 clear KT
 have HS14 := Lib.hid (Since.step HS13.out hB14.out)
 clear hB14
 have KP := Lib.hid (push_at pEx ⟨o14, n14, p14, m14, c14, q14, l14, d14⟩ w14 hF14.out sz_pEx wf_pEx)
 rw [push_ex] at KP
 simp only at KP
 clear hF13 hF14
 go_wp2_with fail
 (with_reducible refine KP.out.mono ?_)
 rintro e w15 ⟨⟨o15, n15, p15, m15, c15, q15, l15, d15⟩, rfl, hF15, hB15⟩
 clear KP
 simp only at hF15
 have HS15 := Lib.hid (Since.step HS14.out hB15.out)
 clear hB15
 obtain ⟨w16, hw16⟩ : ∃ v, v = World.alloc w15 (.cells #[.int .i64 o15, .int .i64 n15, .slice p15 m15 c15, .slice q15 l15 d15] 29) := ⟨_, rfl⟩
 have HX16 : Hid (BoxL w15.heap.size [.int .i64 o15, .int .i64 n15, .slice p15 m15 c15, .slice q15 l15 d15] w16) := Lib.hid (by rw [hw16]; exact BoxL.made w15 _ _)
 have hS16 : Since w15 w16 := by rw [hw16]; exact Since.alloc (since_r _) _
 have HS16 := Lib.hid (Since.step HS15.out hS16)
 have hF15 := Lib.hid (hF15.out.since hS16)
 clear hS16
 go_upto_region 8 with (fail)
 rw [← hw16]
 clear hw16
 generalize w15.heap.size = N15 at *
 go_wp2_with fail
 (with_reducible refine (KC.out _ _).mono ?_)
 rintro e w17 ⟨⟨o17, n17, p17, m17, c17, q17, l17, d17⟩, rfl, hF17, hB17⟩
 have HX16 := Lib.hid (HX16.out.keep hB17.out)
 have HS17 := Lib.hid (Since.step HS16.out hB17.out)
 have hF15 := Lib.hid (hF15.out.since hB17.out)
 clear hB17
 go_wp2_with fail
 (with_reducible refine (KC.out _ _).mono ?_)
 rintro e w18 ⟨⟨o18, n18, p18, m18, c18, q18, l18, d18⟩, rfl, hF18, hB18⟩
 have HX16 := Lib.hid (HX16.out.keep hB18.out)
 have HS18 := Lib.hid (Since.step HS17.out hB18.out)
 have hF15 := Lib.hid (hF15.out.since hB18.out)
 have hF17 := Lib.hid (hF17.out.since hB18.out)
 clear hB18
 obtain ⟨w19, hw19⟩ : ∃ v, v = World.alloc w18 (.cells #[.int .i64 0, .int .i64 0, .slice none 0 0, .slice none 0 0, .int .i64 o17, .int .i64 n17, .slice p17 m17 c17, .slice q17 l17 d17, .int .i64 o18, .int .i64 n18, .slice p18 m18 c18, .slice q18 l18 d18] 29) := ⟨_, rfl⟩
 have hfl := row_at (W := w18) [⟨0, 0, none, 0, 0, none, 0, 0⟩, ⟨o17, n17, p17, m17, c17, q17, l17, d17⟩, ⟨o18, n18, p18, m18, c18, q18, l18, d18⟩] [.mk 0 0 [] [], clF 1, clF 1] #[.int .i64 0, .int .i64 0, .slice none 0 0, .slice none 0 0, .int .i64 o17, .int .i64 n17, .slice p17 m17 c17, .slice q17 l17 d17, .int .i64 o18, .int .i64 n18, .slice p18 m18 c18, .slice q18 l18 d18] 29 rfl rfl (by simp) (fun j r t hr ht => by
  match j with
  | 0 => cases hr; cases ht; exact fsr_z _ _
  | 1 => cases hr; cases ht; exact hF17.out
  | 2 => cases hr; cases ht; exact hF18.out
  | j + 3 => simp at hr)
 have HX16 := Lib.hid (HX16.out.keep (show Since w18 w19 by rw [hw19]; exact Since.alloc (since_r _) _))
 rw [← hw19] at hfl
 simp only [List.length_cons, List.length_nil, Nat.zero_add, Nat.reduceAdd] at hfl
 have HS19 := Lib.hid (show Since w8 w19 by rw [hw19]; exact Since.alloc HS18.out _)
 have hF15 := Lib.hid (hF15.out.since (show Since w18 w19 by rw [hw19]; exact Since.alloc (since_r _) _))
 have KT := Lib.hid (of_at 4 _ 3 3 [.mk 0 0 [] [], clF 1, clF 1] w19 hfl)
 go_wp2_with fail
 rw [← hw19]
 (with_reducible refine KT.out.mono ?_)
 rintro e w20 ⟨⟨o20, n20, p20, m20, c20, q20, l20, d20⟩, rfl, hF20, hB20⟩
 clear KT hfl hw19
 have HX16 := Lib.hid (HX16.out.keep hB20.out)
 have HS20 := Lib.hid (Since.step HS19.out hB20.out)
 have hF15 := Lib.hid (hF15.out.since hB20.out)
 clear hB20
 clear hF17 hF18
 have KP := Lib.hid (simp_at sEx ⟨o20, n20, p20, m20, c20, q20, l20, d20⟩ w20 hF20.out sz_sEx wf_sEx)
 rw [simp_ex] at KP
 simp only at KP
 clear hF20
 go_wp2_with fail
 (with_reducible refine KP.out.mono ?_)
 rintro e w21 ⟨⟨o21, n21, p21, m21, c21, q21, l21, d21⟩, rfl, hF21, hB21⟩
 clear KP
 simp only at hF21
 have HX16 := Lib.hid (HX16.out.keep hB21.out)
 have HS21 := Lib.hid (Since.step HS20.out hB21.out)
 have hF15 := Lib.hid (hF15.out.since hB21.out)
 clear hB21
 obtain ⟨w22_, hw22_⟩ : ∃ v, v = World.alloc w21 (.cells #[.int .i64 o21, .int .i64 n21, .slice p21 m21 c21, .slice q21 l21 d21] 29) := ⟨_, rfl⟩
 have HX16 := Lib.hid (HX16.out.keep (show Since w21 w22_ by rw [hw22_]; exact Since.alloc (since_r _) _))
 subst hw22_
 obtain ⟨w22, hw22⟩ : ∃ v, v = World.alloc w21 (.cells #[.int .i64 o21, .int .i64 n21, .slice p21 m21 c21, .slice q21 l21 d21] 29) := ⟨_, rfl⟩
 have HX22 : Hid (BoxL w21.heap.size [.int .i64 o21, .int .i64 n21, .slice p21 m21 c21, .slice q21 l21 d21] w22) := Lib.hid (by rw [hw22]; exact BoxL.made w21 _ _)
 have hS22 : Since w21 w22 := by rw [hw22]; exact Since.alloc (since_r _) _
 have HS22 := Lib.hid (Since.step HS21.out hS22)
 have hF21 := Lib.hid (hF21.out.since hS22)
 clear hS22
 rw [← hw22] at HX16
 have hF15 := Lib.hid (hF15.out.since (show Since w21 w22 by rw [hw22]; exact Since.alloc (since_r _) _))
 go_upto_region 11 with (fail)
 rw [← hw22]
 clear hw22
 generalize w21.heap.size = N21 at *
 obtain ⟨a0, a1, a2, a3, -⟩ := HX16.out.open4
 obtain ⟨b0, b1, b2, b3, -⟩ := HX22.out.open4
 have hd22 : Since w22 w22.drew := since_d (since_r _)
 refine wp_region_noPanic ?_
 refine wp_region_held_drew (S := fun w' => w'.cell? ⟨N15, 0, none⟩ = some (.int .i64 o15) ∧ w'.cell? ⟨N15, 1, none⟩ = some (.int .i64 n15) ∧ w'.cell? ⟨N15, 2, none⟩ = some (.slice p15 m15 c15) ∧ w'.cell? ⟨N15, 3, none⟩ = some (.slice q15 l15 d15) ∧ w'.cell? ⟨N21, 0, none⟩ = some (.int .i64 o21) ∧ w'.cell? ⟨N21, 1, none⟩ = some (.int .i64 n21) ∧ w'.cell? ⟨N21, 2, none⟩ = some (.slice p21 m21 c21) ∧ w'.cell? ⟨N21, 3, none⟩ = some (.slice q21 l21 d21)) (by kernel_rfl) ⟨hd22.cell a0, hd22.cell a1, hd22.cell a2, hd22.cell a3, hd22.cell b0, hd22.cell b1, hd22.cell b2, hd22.cell b3⟩ (fun hHeld => ?_)
 refine wpAnyH_take (i := 0) (oi := ⟨some 81, Op.load 29 (Operand.tmp 8), 29, _, _, none⟩) (v := ?_) rfl (by kernel_rfl) (by kernel_rfl) (by kernel_rfl) (fun _ _ _ h => h) (Or.inl ⟨by rfl, ?_⟩) (by assumption) ?_
 rotate_left 1
 ·(intro w hSw; (try dsimp only at hSw); go_simp; first | done | with_reducible rfl)
 try simp only [Act.put, List.setIfInBounds_toArray, List.set_cons_zero, List.set_cons_succ]
 refine wpAnyH_ready (rs := [1]) (by kernel_rfl) (by simp) ?_
 refine AllReadyH.cons (o := ⟨some 82, Op.call { callee := Callee.value (Operand.func 54), args := #[Operand.const (Value.int IntKind.i64 0)], argTypes := #[3] }, 29, _, _, none⟩) rfl (fun K hK => ?_) AllReadyH.nil
 go_simp
 go_at_call 54
 (with_reducible refine (KC.out _ _).mono ?_)
 rintro e w23 ⟨⟨o23, n23, p23, m23, c23, q23, l23, d23⟩, rfl, hF23, hB23⟩
 have hr23 : Since w22 w23 := Since.step hd22 hB23.out
 try go_wp2_with fail
 refine hK.out _ _ ?_ (fun hHeld => ?_)
 ·exact ⟨hr23.cell a0, hr23.cell a1, hr23.cell a2, hr23.cell a3, hr23.cell b0, hr23.cell b1, hr23.cell b2, hr23.cell b3⟩
 clear hK K
 try simp only [Act.put, List.setIfInBounds_toArray, List.set_cons_zero, List.set_cons_succ]
 have KT := Lib.hid (not_at (clF 0) ⟨o23, n23, p23, m23, c23, q23, l23, d23⟩ w23 hF23.out)
 simp only at KT
 refine wpAnyH_ready (rs := [2]) (by kernel_rfl) (by simp) ?_
 refine AllReadyH.cons (o := ⟨some 83, Op.call { callee := Callee.value (Operand.func 41), args := #[Operand.tmp 82], argTypes := #[29] }, 29, _, _, none⟩) rfl (fun K hK => ?_) AllReadyH.nil
 go_simp
 go_at_call 41
 (with_reducible refine (KT.out).mono ?_)
 rintro e w24 ⟨⟨o24, n24, p24, m24, c24, q24, l24, d24⟩, rfl, hF24, hB24⟩
 have hr24 : Since w22 w24 := Since.step hr23 hB24.out
 try go_wp2_with fail
 refine hK.out _ _ ?_ (fun hHeld => ?_)
 ·exact ⟨hr24.cell a0, hr24.cell a1, hr24.cell a2, hr24.cell a3, hr24.cell b0, hr24.cell b1, hr24.cell b2, hr24.cell b3⟩
 clear hK K
 try simp only [Act.put, List.setIfInBounds_toArray, List.set_cons_zero, List.set_cons_succ]
 clear KT
 refine wpAnyH_ready (rs := [3]) (by kernel_rfl) (by simp) ?_
 refine AllReadyH.cons (o := ⟨some 84, Op.call { callee := Callee.value (Operand.func 54), args := #[Operand.const (Value.int IntKind.i64 1)], argTypes := #[3] }, 29, _, _, none⟩) rfl (fun K hK => ?_) AllReadyH.nil
 go_simp
 go_at_call 54
 (with_reducible refine (KC.out _ _).mono ?_)
 rintro e w25 ⟨⟨o25, n25, p25, m25, c25, q25, l25, d25⟩, rfl, hF25, hB25⟩
 have hr25 : Since w22 w25 := Since.step hr24 hB25.out
 try go_wp2_with fail
 refine hK.out _ _ ?_ (fun hHeld => ?_)
 ·exact ⟨hr25.cell a0, hr25.cell a1, hr25.cell a2, hr25.cell a3, hr25.cell b0, hr25.cell b1, hr25.cell b2, hr25.cell b3⟩
 clear hK K
 try simp only [Act.put, List.setIfInBounds_toArray, List.set_cons_zero, List.set_cons_succ]
 have hF24 := Lib.hid (hF24.out.since hB25.out)
 refine wpAnyH_ready (rs := [4]) (by kernel_rfl) (by simp) ?_
 refine AllReadyH.cons (o := ⟨some 85, Op.buildSlice 23 2 #[(0, Operand.tmp 83), (1, Operand.tmp 84)], 23, _, _, none⟩) rfl (fun K hK => ?_) AllReadyH.nil
 go_simp
 try go_wp2_with fail
 obtain ⟨w26, hw26⟩ : ∃ v, v = World.alloc w25 (.cells #[.int .i64 o24, .int .i64 n24, .slice p24 m24 c24, .slice q24 l24 d24, .int .i64 o25, .int .i64 n25, .slice p25 m25 c25, .slice q25 l25 d25] 29) := ⟨_, rfl⟩
 rw [← hw26]
 have hfl := row_at (W := w25) [⟨o24, n24, p24, m24, c24, q24, l24, d24⟩, ⟨o25, n25, p25, m25, c25, q25, l25, d25⟩] [notF (clF 0), clF 1] #[.int .i64 o24, .int .i64 n24, .slice p24 m24 c24, .slice q24 l24 d24, .int .i64 o25, .int .i64 n25, .slice p25 m25 c25, .slice q25 l25 d25] 29 rfl rfl (by simp) (fun j r t hr ht => by
  match j with
  | 0 => cases hr; cases ht; exact hF24.out
  | 1 => cases hr; cases ht; exact hF25.out
  | j + 2 => simp at hr)
 rw [← hw26] at hfl
 simp only [List.length_cons, List.length_nil, Nat.zero_add, Nat.reduceAdd] at hfl
 have hr26 : Since w22 w26 := by rw [hw26]; exact Since.alloc hr25 _
 refine hK.out _ _ ?_ (fun hHeld => ?_)
 ·exact ⟨hr26.cell a0, hr26.cell a1, hr26.cell a2, hr26.cell a3, hr26.cell b0, hr26.cell b1, hr26.cell b2, hr26.cell b3⟩
 clear hK K
 try simp only [Act.put, List.setIfInBounds_toArray, List.set_cons_zero, List.set_cons_succ]
 have KT := Lib.hid (of_at 5 _ 2 2 [notF (clF 0), clF 1] w26 hfl)
 clear hw26 hfl
 refine wpAnyH_ready (rs := [5]) (by kernel_rfl) (by simp) ?_
 refine AllReadyH.cons (o := ⟨some 86, Op.call { callee := Callee.value (Operand.func 40), args := #[Operand.const (Value.int IntKind.i64 5), Operand.tmp 85], argTypes := #[3, 23] }, 29, _, _, none⟩) rfl (fun K hK => ?_) AllReadyH.nil
 go_simp
 go_at_call 40
 (with_reducible refine (KT.out).mono ?_)
 rintro e w27 ⟨⟨o27, n27, p27, m27, c27, q27, l27, d27⟩, rfl, hF27, hB27⟩
 have hr27 : Since w22 w27 := Since.step hr26 hB27.out
 try go_wp2_with fail
 refine hK.out _ _ ?_ (fun hHeld => ?_)
 ·exact ⟨hr27.cell a0, hr27.cell a1, hr27.cell a2, hr27.cell a3, hr27.cell b0, hr27.cell b1, hr27.cell b2, hr27.cell b3⟩
 clear hK K
 try simp only [Act.put, List.setIfInBounds_toArray, List.set_cons_zero, List.set_cons_succ]
 clear KT
 have KT := Lib.hid (same_at pOut pOut ⟨o15, n15, p15, m15, c15, q15, l15, d15⟩ ⟨o27, n27, p27, m27, c27, q27, l27, d27⟩ w27 (hF15.out.since hr27) hF27.out (okF_of (Nat.le_trans sz_pOut (by omega)) wf_pOut) (okF_of (Nat.le_trans sz_pOut (by omega)) wf_pOut))
 rw [decide_eq_true rfl] at KT
 simp only at KT
 refine wpAnyH_ready (rs := [6]) (by kernel_rfl) (by simp) ?_
 refine AllReadyH.cons (o := ⟨some 87, Op.call { callee := Callee.value (Operand.func 29), args := #[Operand.tmp 81, Operand.tmp 86], argTypes := #[29, 29] }, 4, _, _, none⟩) rfl (fun K hK => ?_) AllReadyH.nil
 go_simp
 go_at_call 29
 refine KT.out.mono ?_
 rintro e w28 ⟨rfl, hB28⟩
 have hr28 : Since w22 w28 := Since.step hr27 hB28
 try go_wp2_with fail
 refine hK.out _ _ ?_ (fun hHeld => ?_)
 ·exact ⟨hr28.cell a0, hr28.cell a1, hr28.cell a2, hr28.cell a3, hr28.cell b0, hr28.cell b1, hr28.cell b2, hr28.cell b3⟩
 clear hK K
 try simp only [Act.put, List.setIfInBounds_toArray, List.set_cons_zero, List.set_cons_succ]
 clear KT
 refine wpAnyH_take (i := 7) (oi := ⟨some 88, Op.move (Operand.tmp 87), 4, _, _, none⟩) (v := ?_) rfl (by kernel_rfl) (by kernel_rfl) (by kernel_rfl) (fun _ _ _ h => h) (Or.inl ⟨by rfl, ?_⟩) (by assumption) ?_
 rotate_left 1
 ·(intro w hSw; (try dsimp only at hSw); go_simp; first | done | with_reducible rfl)
 try simp only [Act.put, List.setIfInBounds_toArray, List.set_cons_zero, List.set_cons_succ]
 refine wpAnyH_take (i := 8) (oi := ⟨some 89, Op.load 29 (Operand.tmp 10), 29, _, _, some (7, true)⟩) (v := ?_) rfl (by kernel_rfl) (by kernel_rfl) (by kernel_rfl) (fun _ _ _ h => h) (Or.inl ⟨by rfl, ?_⟩) (by assumption) ?_
 rotate_left 1
 ·(intro w hSw; (try dsimp only at hSw); go_simp; first | done | with_reducible rfl)
 try simp only [Act.put, List.setIfInBounds_toArray, List.set_cons_zero, List.set_cons_succ]
 refine wpAnyH_ready (rs := [9]) (by kernel_rfl) (by simp) ?_
 refine AllReadyH.cons (o := ⟨some 90, Op.call { callee := Callee.value (Operand.func 54), args := #[Operand.const (Value.int IntKind.i64 1)], argTypes := #[3] }, 29, _, _, some (7, true)⟩) rfl (fun K hK => ?_) AllReadyH.nil
 go_simp
 go_at_call 54
 (with_reducible refine (KC.out _ _).mono ?_)
 rintro e w29 ⟨⟨o29, n29, p29, m29, c29, q29, l29, d29⟩, rfl, hF29, hB29⟩
 have hr29 : Since w22 w29 := Since.step hr28 hB29.out
 try go_wp2_with fail
 refine hK.out _ _ ?_ (fun hHeld => ?_)
 ·exact ⟨hr29.cell a0, hr29.cell a1, hr29.cell a2, hr29.cell a3, hr29.cell b0, hr29.cell b1, hr29.cell b2, hr29.cell b3⟩
 clear hK K
 try simp only [Act.put, List.setIfInBounds_toArray, List.set_cons_zero, List.set_cons_succ]
 have KT := Lib.hid (same_at (clF 1) (clF 1) ⟨o21, n21, p21, m21, c21, q21, l21, d21⟩ ⟨o29, n29, p29, m29, c29, q29, l29, d29⟩ w29 (hF21.out.since hr29) hF29.out (okF_of (Nat.le_trans (sz_cl 1) (by omega)) (wf_cl 1)) (okF_of (Nat.le_trans (sz_cl 1) (by omega)) (wf_cl 1)))
 rw [decide_eq_true rfl] at KT
 simp only at KT
 refine wpAnyH_ready (rs := [10]) (by kernel_rfl) (by simp) ?_
 refine AllReadyH.cons (o := ⟨some 91, Op.call { callee := Callee.value (Operand.func 29), args := #[Operand.tmp 89, Operand.tmp 90], argTypes := #[29, 29] }, 4, _, _, some (7, true)⟩) rfl (fun K hK => ?_) AllReadyH.nil
 go_simp
 go_at_call 29
 refine KT.out.mono ?_
 rintro e w30 ⟨rfl, hB30⟩
 have hr30 : Since w22 w30 := Since.step hr29 hB30
 try go_wp2_with fail
 refine hK.out _ _ ?_ (fun hHeld => ?_)
 ·exact ⟨hr30.cell a0, hr30.cell a1, hr30.cell a2, hr30.cell a3, hr30.cell b0, hr30.cell b1, hr30.cell b2, hr30.cell b3⟩
 clear hK K
 try simp only [Act.put, List.setIfInBounds_toArray, List.set_cons_zero, List.set_cons_succ]
 clear KT
 refine wpAnyH_take (i := 11) (oi := ⟨some 92, Op.pick (Operand.tmp 88) (Operand.tmp 91) (Operand.const (Value.bool false)), 4, _, _, none⟩) (v := ?_) rfl (by kernel_rfl) (by kernel_rfl) (by kernel_rfl) (fun _ _ _ h => h) (Or.inl ⟨by rfl, ?_⟩) (by assumption) ?_
 rotate_left 1
 ·(intro w hSw; (try dsimp only at hSw); go_simp; first | done | with_reducible rfl)
 try simp only [Act.put, List.setIfInBounds_toArray, List.set_cons_zero, List.set_cons_succ]
 refine wpAnyH_take (i := 12) (oi := ⟨some 0, Op.assign (Operand.tmp 92), 4, _, _, none⟩) (v := ?_) rfl (by kernel_rfl) (by kernel_rfl) (by kernel_rfl) (fun _ _ _ h => h) (Or.inl ⟨by rfl, ?_⟩) (by assumption) ?_
 rotate_left 1
 ·(intro w hSw; (try dsimp only at hSw); go_simp; first | done | with_reducible rfl)
 try simp only [Act.put, List.setIfInBounds_toArray, List.set_cons_zero]
 refine wpAnyH_done (by kernel_rfl) ?_ _
 refine NoPanic.normal ?_
 have HE := Lib.hid (HB0.out.trans (Below.mono (Since.step HS22.out hr30) HB0.out.size))
 go_wp2
 go_ret
 exact ⟨rfl, HE.out⟩
end Go.Proofs.YtgnloodmbgdgdaaGreat
namespace Go.Proofs.YtgnloodmbgdgdaaGreat
open Go.RowKit Go.Shelf
def WldOut (w : World) (e : Ending) (w' : World) : Prop :=
 ∃ N P a n c, e = .returned (.tuple #[.pointer (some ⟨N, 0, none⟩), .slice a n c]) ∧ GenP 6 P ∧ Hid (n = P.length) ∧ Hid (TxAt N P w') ∧ Hid (LE w' (.slice a n c) P) ∧ Hid (Below w.heap.size w w')
theorem newG_any (sv : Value) (P : List (List Int)) (w : World) (h : LE w sv P) (hG : GenP 6 P) :
  Calls Tryz.prog 53 #[sv] w fun e w' => ∃ N, e = .returned (.tuple #[.pointer (some ⟨N, 0, none⟩), .int .i64 0]) ∧ Hid (TxAt N P w') ∧ Hid (Below w.heap.size w w') :=
 (txnew_any sv P w h (by have := hG.le; omega) (fun l hl => by have := hG.short l hl; omega)).mono fun e w' h => by
  rcases h with ⟨h1, _⟩ | ⟨_, N, h2, h3, h4⟩
  ·exact absurd (Tx.newE_ok.2 ⟨hG.good.len, hG.good.ok, hG.good.acy⟩) h1
  ·exact ⟨N, h2, h3, h4⟩
set_option maxHeartbeats 4000000 in
set_option maxRecDepth 100000 in
theorem world_any (sv : Value) (zs : List Int) (w : World) (hl : Els .i64 w sv zs) (hw : Wfs zs) : Calls Tryz.prog 19 #[sv] w (WldOut w) := by
 have K0 := Lib.hid (parents_any sv zs 6 w hl hw (by decide) (by decide))
 obtain ⟨a, c, rfl⟩ := hl.shape
 generalize zs.length = n at *
 clear hl hw
 go_enter Tryz.func19, Tryz.ntmps19
 go_wp2_with fail
 refine K0.out.mono ?_
 rintro e W1 ⟨P, a1, n1, c1, rfl, hG, hn, hL, hB⟩
 have hle : LE W1 (.slice a1 n1 c1) P := (hL.out.lin).le
 have HLE := Lib.hid hle
 have K1 := Lib.hid (newG_any (.slice a1 n1 c1) P W1 hle hG)
 clear hle K0 hL
 go_wp2_with fail
 refine K1.out.mono ?_
 rintro e W2 ⟨N, rfl, hT, hB2⟩
 have hfin : WldOut w (.returned (.tuple #[.pointer (some ⟨N, 0, none⟩), .slice a1 n1 c1])) W2 := ⟨N, P, a1, n1, c1, rfl, hG, hn, hT, Lib.hid (HLE.out.below hB2.out), Lib.hid (hB.out.trans (Below.mono hB2.out hB.out.size))⟩
 have HF := Lib.hid hfin
 clear hfin hT hB2 hB hG hn HLE K1
 go_wp2
 exact bodyPost_ret (v := .tuple #[.pointer (some ⟨N, 0, none⟩), .slice a1 n1 c1]) (by simp [results, Tryz.results19, go_sem]) rfl HF.out
end Go.Proofs.YtgnloodmbgdgdaaGreat
namespace Go.Proofs.YtgnloodmbgdgdaaGreat
open Go.RowKit Go.Shelf
structure MeanF (P : List (List Int)) (f : Fo) (t : Th) : Prop where
 h : holdsR P f t = (f.hold P t, 0)
 s : simpR f = (simpleF f, 0)
 hs : holdsR P (simpleF f) t = (f.hold P t, 0)
 p : pushR f = (pushG false f, 0) ∧ holdsR P (pushG false f) t = (f.hold P t, 0) ∧ negG (pushG false f) = true ∨ pushR f = (.mk 0 0 [] [], 4)
 zs : (simpleF f).size ≤ 100000
 ws : (simpleF f).wf
theorem holdsR_ok {P : List (List Int)} {f : Fo} {t : Th} (h1 : validF f = 0) (h2 : validT t = 0) (h3 : f.cls P.length = true) (h4 : t.cls P.length = true) : holdsR P f t = (f.hold P t, 0) := by
 unfold holdsR
 rw [if_neg (by rw [h1]; decide), if_neg (by rw [h2]; decide), if_pos ⟨h3, h4⟩]
theorem validT_of {m d : Nat} {t : Th} (h : GdT m d t) (hd : d ≤ 4) : validT t = 0 := by
 have h1 := h.size
 have h2 := h.deep
 have h3 : sn d ≤ 40 := by
  match d, hd with
  | 0, _ => decide
  | 1, _ => decide
  | 2, _ => decide
  | 3, _ => decide
  | 4, _ => decide
 unfold validT
 rw [if_neg (by omega), if_pos (Th.goodB_t h.good)]
theorem thing_at {S0 : Nat → Prop} {V : World} {t : Th} {r : Tr} (h : TSr (fun k => S0 k ∧ k < V.heap.size) V t r) : TAt V.heap.size V t (.slice r.a1 r.n1 r.c1) (.slice r.a2 r.n2 r.c2) (.slice r.a3 r.n3 r.c3) := TS.tat (fun _ hb => hb.2) _ h
end Go.Proofs.YtgnloodmbgdgdaaGreat
