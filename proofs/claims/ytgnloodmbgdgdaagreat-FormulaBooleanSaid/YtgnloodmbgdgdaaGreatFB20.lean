import Derived.Test.YtgnloodmbgdgdaaGreatFB19
namespace Go.Proofs.YtgnloodmbgdgdaaGreat
open Go.RowKit Go.Shelf
mutual
def pushG : Bool → Fo → Fo
 | b, .mk op n is ks =>
  if op = 6 then pushG1 (!b) ks
  else if b = false then .mk op n is (pushGs false ks)
  else if op = 0 then .mk 5 0 [] []
  else if op = 5 ∧ ks.length = 0 then .mk 0 0 [] []
  else if op = 4 then .mk 5 n is (pushGs true ks)
  else if op = 5 then .mk 4 n is (pushGs true ks)
  else .mk 6 0 [] [.mk op n is (pushGs false ks)]
def pushG1 : Bool → List Fo → Fo
 | _, [] => .mk 0 0 [] []
 | b, k :: _ => pushG b k
def pushGs : Bool → List Fo → List Fo
 | _, [] => []
 | b, k :: ks => pushG b k :: pushGs b ks
end
theorem pushGs_map (b : Bool) : ∀ ks : List Fo, pushGs b ks = ks.map (pushG b)
 | [] => by rw [pushGs]; rfl
 | k :: ks => by rw [pushGs, pushGs_map b ks]; rfl
theorem pushG1_get {b : Bool} {ks : List Fo} {u : Fo} (h : ks[0]? = some u) : pushG1 b ks = pushG b u := by
 cases ks with
 | nil => simp at h
 | cons k ks => simp at h; subst h; rw [pushG1]
theorem pushG_eq (b : Bool) (f : Fo) : pushG b f = if f.op = 6 then pushG1 (!b) f.ks
  else if b = false then .mk f.op f.n f.is (f.ks.map (pushG false))
  else if f.op = 0 then .mk 5 0 [] []
  else if f.op = 5 ∧ f.ks.length = 0 then .mk 0 0 [] []
  else if f.op = 4 then .mk 5 f.n f.is (f.ks.map (pushG true))
  else if f.op = 5 then .mk 4 f.n f.is (f.ks.map (pushG true))
  else .mk 6 0 [] [.mk f.op f.n f.is (f.ks.map (pushG false))] := by
 cases f
 rw [pushG, pushGs_map, pushGs_map]
 rfl
theorem good_six {f : Fo} (h : f.good = true) (h6 : f.op = 6) : f.ks.length = 1 := by
 rw [f.good_eq, h6] at h
 simp [properB] at h
 exact h.1.2.2
theorem good_kid {f : Fo} (h : f.good = true) {u : Fo} (hu : u ∈ f.ks) : u.good = true := by
 rw [f.good_eq, Bool.and_eq_true] at h
 have h2 := h.2
 clear h
 generalize f.ks = ks at *
 induction ks with
 | nil => cases hu
 | cons k ks ih =>
  rw [Fo.goods, Bool.and_eq_true] at h2
  rcases List.mem_cons.1 hu with rfl | hu
  ·exact h2.1
  ·exact ih hu h2.2
set_option maxHeartbeats 4000000 in
set_option maxRecDepth 100000 in
theorem never_any (W : World) : Calls Tryz.prog 121 #[] W (FoOut (fun _ => False) (.mk 5 0 [] []) W) := by
 obtain ⟨W1, hW1⟩ : ∃ W1, W1 = W.alloc (.cells #[.int .i64 0, .int .i64 0, .slice none 0 0, .slice none 0 0] 29) := ⟨_, rfl⟩
 have hS1 : Since W W1 := by rw [hW1]; exact Since.alloc (since_r _) _
 have hX1 : BoxL W.heap.size [.int .i64 0, .int .i64 0, .slice none 0 0, .slice none 0 0] W1 := by rw [hW1]; exact BoxL.made W _ _
 obtain ⟨x0, x1, x2, x3, f0, f1, f2, f3, -⟩ := hX1.all4
 have hfin := put4_end (S0 := fun _ => False) (f := .mk 5 0 [] []) (N := W.heap.size) hS1 (Nat.le_refl _) ⟨5, 0, none, 0, 0, none, 0, 0⟩ ⟨rfl, rfl, FS.of (.inl ⟨.inl rfl, rfl⟩) (.inl (.inl rfl)) (.inl ⟨.inl rfl, rfl⟩)⟩ _ _ rfl rfl
 have HF := Lib.hid hfin
 unfold put4 at HF
 clear hfin hX1 hS1
 go_enter Tryz.func121, Tryz.ntmps121
 go_upto_region 1 with (fail)
 rw [← hW1]
 clear hW1
 go_wp2
 exact bodyPost_ret (v := .agg #[.int .i64 5, .int .i64 0, .slice none 0 0, .slice none 0 0]) (by simp [results, Tryz.results121, go_sem, x0, x1, x2, x3]) rfl HF.out
set_option maxHeartbeats 4000000 in
set_option maxRecDepth 100000 in
theorem always_any (W : World) : Calls Tryz.prog 123 #[] W (FoOut (fun _ => False) (.mk 0 0 [] []) W) := by
 obtain ⟨W1, hW1⟩ : ∃ W1, W1 = W.alloc (.cells #[.int .i64 0, .int .i64 0, .slice none 0 0, .slice none 0 0] 29) := ⟨_, rfl⟩
 have hS1 : Since W W1 := by rw [hW1]; exact Since.alloc (since_r _) _
 have hX1 : BoxL W.heap.size [.int .i64 0, .int .i64 0, .slice none 0 0, .slice none 0 0] W1 := by rw [hW1]; exact BoxL.made W _ _
 obtain ⟨x0, x1, x2, x3, f0, f1, f2, f3, -⟩ := hX1.all4
 have hfin := put4_end (S0 := fun _ => False) (f := .mk 0 0 [] []) (N := W.heap.size) hS1 (Nat.le_refl _) ⟨0, 0, none, 0, 0, none, 0, 0⟩ ⟨rfl, rfl, FS.of (.inl ⟨.inl rfl, rfl⟩) (.inl (.inl rfl)) (.inl ⟨.inl rfl, rfl⟩)⟩ _ _ rfl rfl
 have HF := Lib.hid hfin
 unfold put4 at HF
 clear hfin hX1 hS1
 go_enter Tryz.func123, Tryz.ntmps123
 go_upto_region 1 with (fail)
 rw [← hW1]
 clear hW1
 go_wp2
 exact bodyPost_ret (v := .agg #[.int .i64 0, .int .i64 0, .slice none 0 0, .slice none 0 0]) (by simp [results, Tryz.results123, go_sem, x0, x1, x2, x3]) rfl HF.out
set_option maxHeartbeats 4000000 in
set_option maxRecDepth 100000 in
theorem isNever_any (op n : Int) (a2 : Option Addr) (n2 c2 : Nat) (a3 : Option Addr) (n3 c3 : Nat) (W : World) : Calls Tryz.prog 122 #[.agg #[.int .i64 op, .int .i64 n, .slice a2 n2 c2, .slice a3 n3 c3]] W fun e w' => e = .returned (.bool (decide (op = 5 ∧ n3 = 0))) ∧ Since W w' := by
 obtain ⟨W1, hW1⟩ : ∃ W1, W1 = W.alloc (.cells #[.int .i64 op, .int .i64 n, .slice a2 n2 c2, .slice a3 n3 c3] 29) := ⟨_, rfl⟩
 have hS1 : Since W W1 := by rw [hW1]; exact Since.alloc (since_r _) _
 have hX1 : BoxL W.heap.size [.int .i64 op, .int .i64 n, .slice a2 n2 c2, .slice a3 n3 c3] W1 := by rw [hW1]; exact BoxL.made W _ _
 obtain ⟨x0, x1, x2, x3, -⟩ := hX1.open4
 have HS1 := Lib.hid hS1
 clear hX1 hS1
 by_cases h5 : op = 5
 ·subst h5
  by_cases h0 : n3 = 0
  ·subst h0
   go_enter Tryz.func122, Tryz.ntmps122
   go_upto_region 1 with (fail)
   rw [← hW1]
   clear hW1
   go_wp2
   go_ret
   exact ⟨rfl, HS1.out⟩
  ·have e1 : ((n3 : Int) == 0) = false := by simpa using h0
   go_enter Tryz.func122, Tryz.ntmps122
   go_upto_region 1 with (fail)
   rw [← hW1]
   clear hW1
   go_wp2
   go_ret
   exact ⟨by simp [h0], HS1.out⟩
 ·have e1 : (op == 5) = false := by simpa using h5
  go_enter Tryz.func122, Tryz.ntmps122
  go_upto_region 1 with (fail)
  rw [← hW1]
  clear hW1
  go_wp2
  go_ret
  exact ⟨by simp [h5], HS1.out⟩
end Go.Proofs.YtgnloodmbgdgdaaGreat
namespace Go.Proofs.YtgnloodmbgdgdaaGreat
open Go.RowKit Go.Shelf
structure PEnv (b4 b3 : Nat) (W : World) : Prop where
 neg : W.cell? ⟨b4, 0, none⟩ = some (.func (.func 120) #[] #[.pointer (some ⟨b4, 0, none⟩), .pointer (some ⟨b3, 0, none⟩)])
 keep : W.cell? ⟨b3, 0, none⟩ = some (.func (.func 118) #[] #[.pointer (some ⟨b4, 0, none⟩), .pointer (some ⟨b3, 0, none⟩)])
theorem PEnv.since {b4 b3 : Nat} {W W' : World} (h : PEnv b4 b3 W) (hS : Since W W') : PEnv b4 b3 W' := ⟨hS.cell h.1, hS.cell h.2⟩
def KeepK (m : Nat) : Prop := ∀ (f : Fo), f.size ≤ m → f.good = true → f.wf → ∀ (b4 b3 : Nat) (S0 : Nat → Prop) (c d : Value) (W : World), (∀ k, S0 k → k < W.heap.size) → PEnv b4 b3 W → FS S0 W f c d →
 Calls Tryz.prog 118 #[.agg #[.int .i64 f.op, .int .i64 f.n, c, d], .pointer (some ⟨b4, 0, none⟩), .pointer (some ⟨b3, 0, none⟩)] W (FoOut S0 (pushG false f) W)
def NegK (m : Nat) : Prop := ∀ (f : Fo), f.size ≤ m → f.good = true → f.wf → ∀ (b4 b3 : Nat) (S0 : Nat → Prop) (c d : Value) (W : World), (∀ k, S0 k → k < W.heap.size) → PEnv b4 b3 W → FS S0 W f c d →
 Calls Tryz.prog 120 #[.agg #[.int .i64 f.op, .int .i64 f.n, c, d], .pointer (some ⟨b4, 0, none⟩), .pointer (some ⟨b3, 0, none⟩)] W (FoOut S0 (pushG true f) W)
theorem FS.parts' {S : Nat → Prop} {w : World} {f : Fo} {c d : Value} (h : FS S w f c d) : FSl S w d f.ks := by
 cases f
 exact h.parts.2
theorem FSr.mono {S S' : Nat → Prop} {w : World} {t : Fo} {r : Fr} (hs : ∀ b, S b → S' b) (h : FSr S w t r) : FSr S' w t r := ⟨h.1, h.2.1, FS.mono hs _ h.2.2⟩
theorem ret_end {S0 : Nat → Prop} {f : Fo} {W W2 w3 : World} {r : Fr} (hS : Since W W2) (hz : W.heap.size + 2 ≤ W2.heap.size) (hS0 : ∀ k, S0 k → k < W.heap.size) (hF : FSr (fun k => (S0 k ∨ W2.drew.heap.size ≤ k) ∧ k < w3.heap.size) w3 f r) (hB : Since W2 w3) :
  FoOut S0 f W (.returned (.agg #[.int .i64 r.op, .int .i64 r.n, .slice r.a2 r.n2 r.c2, .slice r.a3 r.n3 r.c3])) (put4 w3 (W.heap.size + 1) (.int .i64 r.op) (.int .i64 r.n) (.slice r.a2 r.n2 r.c2) (.slice r.a3 r.n3 r.c3)) :=
 put4_end (Since.step hS hB) (by omega) r (hF.mono fun k hk => ⟨by
  have hz' : W.heap.size + 2 ≤ W2.drew.heap.size := hz
  rcases hk.1 with h | h
  ·exact .inl ⟨h, hS0 k h⟩
  ·exact .inr ⟨by omega, by omega⟩, hk.2⟩) _ _ rfl rfl
set_option maxHeartbeats 8000000 in
set_option maxRecDepth 100000 in
theorem keep_step (m : Nat) (hm : m + 1 ≤ 1000000) (KK : Hid (KeepK m)) (KN : Hid (NegK m)) : KeepK (m + 1) := by
 intro f hf hg hw b4 b3 S0 c d W hS0 hE hT
 have hwf := (Fo.wf_eq f).1 hw
 have hsz := f.size_eq
 have hpg := pushG_eq false f
 obtain ⟨a2, c2, a3, c3, rfl, rfl, hn2, hn3, hlr⟩ : ∃ a2 c2 a3 c3, c = .slice a2 f.is.length c2 ∧ d = .slice a3 f.ks.length c3 ∧ True ∧ True ∧ True := by
  obtain ⟨r, e1, e2, e3, e4, -⟩ := hT.shape
  exact ⟨_, _, _, _, by rw [e1, e3], by rw [e2, e4], trivial, trivial, trivial⟩
 obtain ⟨W1, hW1⟩ : ∃ W1, W1 = W.alloc (.cells #[.int .i64 f.op, .int .i64 f.n, .slice a2 f.is.length c2, .slice a3 f.ks.length c3] 29) := ⟨_, rfl⟩
 have hS1 : Since W W1 := by rw [hW1]; exact Since.alloc (since_r _) _
 have hX1 : BoxL W.heap.size [.int .i64 f.op, .int .i64 f.n, .slice a2 f.is.length c2, .slice a3 f.ks.length c3] W1 := by rw [hW1]; exact BoxL.made W _ _
 have hz1 : W1.heap.size = W.heap.size + 1 := by rw [hW1, World.size_alloc]
 obtain ⟨W2, hW2⟩ : ∃ W2, W2 = W1.alloc (.cells #[.int .i64 0, .int .i64 0, .slice none 0 0, .slice none 0 0] 29) := ⟨_, rfl⟩
 have hS2 : Since W1 W2 := by rw [hW2]; exact Since.alloc (since_r _) _
 have hR2 : BoxL (W.heap.size + 1) [.int .i64 0, .int .i64 0, .slice none 0 0, .slice none 0 0] W2 := by rw [hW2, ← hz1]; exact BoxL.made W1 _ _
 have hz2 : W2.heap.size = W.heap.size + 2 := by rw [hW2, World.size_alloc, hz1]
 have hS : Since W W2 := Since.step hS1 hS2
 have hT2 : ∀ V, Since W V → FS (fun k => S0 k ∧ k < V.heap.size) V f (.slice a2 f.is.length c2) (.slice a3 f.ks.length c3) := fun V hV => FS.keep (S' := S0) ⟨hV.size, fun b hb _ => hV.block b (hS0 b hb)⟩ (fun b _ hb => hb) f hT
 have hkid := fun (j : Nat) (hj : j < f.ks.length) => kid_at hT.parts' hj
 obtain ⟨o0, o1, o2, o3, -⟩ := (hX1.keep hS2).open4
 obtain ⟨e4, e3⟩ := hE.since hS
 have HT2 := Lib.hid hT2
 have HKID := Lib.hid hkid
 have HR2 := Lib.hid hR2
 have HS := Lib.hid hS
 have HZ2 : Hid (W.heap.size + 2 ≤ W2.heap.size) := Lib.hid (by omega)
 have HS0 := Lib.hid hS0
 have HE := Lib.hid hE
 have HW := Lib.hid hw
 have HWF := Lib.hid hwf
 have HG := Lib.hid hg
 have HPG := Lib.hid hpg
 have HFS := Lib.hid hf
 have HFZ := Lib.hid hsz
 clear hT2 hkid hR2 hS hS0 hE hw hwf hg hpg hT hX1 hS1 hS2 hn2 hn3 hlr hz2 hz1 hf hsz
 by_cases h6 : f.op = 6
 ·have h1 := good_six HG.out h6
  have HOP := Lib.hid h6
  have hl : 0 < f.ks.length := by omega
  have i1 : (0 : Int) < (f.ks.length : Int) := by omega
  have e6 : (f.op == 6) = true := by simpa using h6
  clear h1 h6
  go_enter Tryz.func118, Tryz.ntmps118
  go_upto_region 1 with (fail)
  rw [← hW1, ← hW2]
  clear hW1 hW2
  obtain ⟨g3, u, ua, um, ud, va, vm, vd, rfl, hSg, hg3, hcap, hu, u0, u1, u2, u3, hFu⟩ := HKID.out 0 (by omega)
  have hum := List.mem_of_getElem? hu
  have hus := Fo.sizes_mem hum
  have hgl : g3 < W.heap.size := HS0.out g3 hSg
  have v0 := (HS.out.cell (p := ⟨g3, 0, none⟩) (by simpa using u0))
  have v1 := (HS.out.cell (p := ⟨g3, 1, none⟩) (by simpa using u1))
  have v2 := (HS.out.cell (p := ⟨g3, 2, none⟩) (by simpa using u2))
  have v3 := (HS.out.cell (p := ⟨g3, 3, none⟩) (by simpa using u3))
  have hres : pushG false f = pushG true u := by rw [HPG.out, if_pos HOP.out]; exact pushG1_get hu
  have HRES := Lib.hid hres
  have KQ := Lib.hid fun (V : World) (hV : Since W2 V) => KN.out u (by have := HFS.out; have := HFZ.out; omega) (good_kid HG.out hum) (HWF.out.2 u hum) b4 b3 S0 (.slice ua um ud) (.slice va vm vd) V (fun k hk => Nat.lt_of_lt_of_le (HS0.out k hk) (Since.step HS.out hV).size) (HE.out.since (Since.step HS.out hV)) (FS.mono (fun k h => h.1) _ (FS.keep (S' := S0) ⟨(Since.step HS.out hV).size, fun b hb _ => (Since.step HS.out hV).block b (HS0.out b hb)⟩ (fun b _ hb => hb) u hFu))
  have hb4 : b4 ≠ W.heap.size + 1 := fun e => by have := block_there (HE.out.1); simp only at this; omega
  have hb3 : b3 ≠ W.heap.size + 1 := fun e => by have := block_there (HE.out.2); simp only at this; omega
  have hbg : g3 ≠ W.heap.size + 1 := by omega
  have hbN : W.heap.size ≠ W.heap.size + 1 := by omega
  clear hu hFu u0 u1 u2 u3 hum hus hres hSg hg3
  go_upto_region 2 with (fail)
  refine wp_region_noPanic ?_
  refine wp_region_held_drew (S := fun w' => w'.cell? ⟨b4, 0, none⟩ = some (.func (.func 120) #[] #[.pointer (some ⟨b4, 0, none⟩), .pointer (some ⟨b3, 0, none⟩)]) ∧ w'.cell? ⟨W.heap.size, 3, none⟩ = some (.slice (some ⟨g3, 0, none⟩) f.ks.length c3) ∧ w'.cell? ⟨g3, 0, none⟩ = some (.int .i64 u.op) ∧ w'.cell? ⟨g3, 1, none⟩ = some (.int .i64 u.n) ∧ w'.cell? ⟨g3, 2, none⟩ = some (.slice ua um ud) ∧ w'.cell? ⟨g3, 3, none⟩ = some (.slice va vm vd)) (by kernel_rfl) (have hd : Since W2 W2.drew := since_d (since_r _); ⟨hd.cell e4, hd.cell o3, hd.cell v0, hd.cell v1, hd.cell v2, hd.cell v3⟩) (fun hHeld => ?_)
  refine wpAnyH_take (i := 0) (oi := { dst := some 8, op := Op.load 67 (Operand.tmp 1), type := 67, pos := _, after := #[], guard := none }) (v := ?_) rfl (by kernel_rfl) (by kernel_rfl) (by kernel_rfl) (fun _ _ _ h => h) (Or.inl ⟨by rfl, ?_⟩) (by assumption) ?_
  rotate_left 1
  ·(intro w hSw; (try dsimp only at hSw); go_simp; first | done | with_reducible rfl)
  try simp only [Act.put, List.setIfInBounds_toArray, List.set_cons_zero, List.set_cons_succ]
  refine wpAnyH_take (i := 1) (oi := ⟨some 9, Op.fieldAddr 29 (Operand.tmp 3) 3, 0, _, _, none⟩) (v := ?_) rfl (by kernel_rfl) (by kernel_rfl) (by kernel_rfl) (fun _ _ _ h => h) (Or.inl ⟨by rfl, ?_⟩) (by assumption) ?_
  rotate_left 1
  ·(intro w hSw; (try dsimp only at hSw); go_simp; first | done | with_reducible rfl)
  try simp only [Act.put, List.setIfInBounds_toArray, List.set_cons_zero, List.set_cons_succ]
  refine wpAnyH_take (i := 2) (oi := ⟨some 10, Op.load 23 (Operand.tmp 9), 23, _, _, none⟩) (v := ?_) rfl (by kernel_rfl) (by kernel_rfl) (by kernel_rfl) (fun _ _ _ h => h) (Or.inl ⟨by rfl, ?_⟩) (by assumption) ?_
  rotate_left 1
  ·(intro w hSw; (try dsimp only at hSw); go_simp; first | done | with_reducible rfl)
  try simp only [Act.put, List.setIfInBounds_toArray, List.set_cons_zero, List.set_cons_succ]
  refine wpAnyH_take (i := 3) (oi := ⟨some 11, Op.indexAddr 23 (Operand.tmp 10) (Operand.const (Value.int IntKind.i64 0)), 0, _, _, none⟩) (v := ?_) rfl (by kernel_rfl) (by kernel_rfl) (by kernel_rfl) (fun _ _ _ h => h) (Or.inl ⟨by rfl, ?_⟩) (by assumption) ?_
  rotate_left 1
  ·(intro w hSw; (try dsimp only at hSw); go_simp; first | done | with_reducible rfl)
  try simp only [Act.put, List.setIfInBounds_toArray, List.set_cons_zero, List.set_cons_succ]
  refine wpAnyH_take (i := 4) (oi := ⟨some 12, Op.load 29 (Operand.tmp 11), 29, _, _, none⟩) (v := ?_) rfl (by kernel_rfl) (by kernel_rfl) (by kernel_rfl) (fun _ _ _ h => h) (Or.inl ⟨by rfl, ?_⟩) (by assumption) ?_
  rotate_left 1
  ·(intro w hSw; (try dsimp only at hSw); go_simp; first | done | with_reducible rfl)
  try simp only [Act.put, List.setIfInBounds_toArray, List.set_cons_zero, List.set_cons_succ]
  refine wpAnyH_ready (rs := [5]) (by kernel_rfl) (by simp) ?_
  refine AllReadyH.cons (o := ⟨some 13, Op.call { callee := Callee.value (Operand.tmp 8), args := #[Operand.tmp 12], argTypes := #[29] }, 29, _, _, none⟩) rfl (fun K hK => ?_) AllReadyH.nil
  go_simp
  go_at_call 120
  refine (KQ.out _ (since_d (since_r _))).mono ?_
  rintro e w3 ⟨⟨fop, fn, fa2, fn2, fc2, fa3, fn3, fc3⟩, rfl, hF3, hB3⟩
  have hs3 : Since W2 w3 := Since.step (since_d (since_r _)) hB3.out
  go_wp2_with fail
  refine hK.out _ _ ?_ (fun hHeld => ?_)
  ·exact ⟨hs3.cell e4, hs3.cell o3, hs3.cell v0, hs3.cell v1, hs3.cell v2, hs3.cell v3⟩
  clear hK K
  try simp only [Act.put, List.setIfInBounds_toArray, List.set_cons_zero, List.set_cons_succ]
  obtain ⟨z0, z1, z2, z3, zf0, zf1, zf2, zf3, -⟩ := (HR2.out.keep hs3).all4
  refine wpAnyH_ready (rs := [6]) (by kernel_rfl) (by simp) ?_
  refine AllReadyH.cons (o := ⟨none, Op.store 29 (Operand.tmp 4) (Operand.tmp 13), 0, _, _, none⟩) rfl (fun K hK => ?_) AllReadyH.nil
  go_simp
  go_wp2_with fail
  refine hK.out _ _ ?_ (fun hHeld => ?_)
  ·exact ⟨cell_set hb4 (cell_set hb4 (cell_set hb4 (cell_set hb4 (hs3.cell e4)))), cell_set hbN (cell_set hbN (cell_set hbN (cell_set hbN (hs3.cell o3)))), cell_set hbg (cell_set hbg (cell_set hbg (cell_set hbg (hs3.cell v0)))), cell_set hbg (cell_set hbg (cell_set hbg (cell_set hbg (hs3.cell v1)))), cell_set hbg (cell_set hbg (cell_set hbg (cell_set hbg (hs3.cell v2)))), cell_set hbg (cell_set hbg (cell_set hbg (cell_set hbg (hs3.cell v3))))⟩
  clear hK K
  try simp only [Act.put, List.setIfInBounds_toArray, List.set_cons_zero, List.set_cons_succ]
  refine wpAnyH_done (by kernel_rfl) ?_ _
  refine NoPanic.normal ?_
  have hfin := ret_end HS.out HZ2.out HS0.out (FSr.mono (fun k h => h) hF3.out) hs3
  rw [← HRES.out] at hfin
  unfold put4 at hfin
  have HFI := Lib.hid hfin
  clear hfin hF3 hB3
  go_wp2
  exact bodyPost_ret (v := .agg #[.int .i64 fop, .int .i64 fn, .slice fa2 fn2 fc2, .slice fa3 fn3 fc3]) (by simp [results, Tryz.results118, go_sem, z0, z1, z2, z3]) rfl HFI.out
 ·have e6 : (f.op == 6) = false := by simpa using h6
  have hres : pushG false f = .mk f.op f.n f.is (f.ks.map (pushG false)) := by rw [HPG.out, if_neg h6, if_pos rfl]
  have HRES := Lib.hid hres
  have KR := Lib.hid (rebK_any b4 b3 (pushG false) S0 f (by have := HFS.out; omega) HWF.out.1.2 f.op (.slice a2 f.is.length c2) (.slice a3 f.ks.length c3) W2 (fun k hk => Nat.lt_of_lt_of_le (HS0.out k hk) HS.out.size) (FS.mono (fun k h => h.1) _ (HT2.out W2 HS.out)) fun u hu c d V hV hFu => KK.out u (by have := HFS.out; have := HFZ.out; have := Fo.sizes_mem hu; omega) (good_kid HG.out hu) (HWF.out.2 u hu) b4 b3 _ c d V (fun k hk => Nat.lt_of_lt_of_le hk.2 hV.size) (HE.out.since (Since.step HS.out hV)) hFu)
  clear h6 hres
  go_enter Tryz.func118, Tryz.ntmps118
  go_upto_region 1 with (fail)
  rw [← hW1, ← hW2]
  clear hW1 hW2
  go_wp2_with fail
  (with_reducible refine KR.out.mono ?_)
  rintro e w3 ⟨⟨fop, fn, fa2, fn2, fc2, fa3, fn3, fc3⟩, rfl, hF3, hB3⟩
  obtain ⟨z0, z1, z2, z3, zf0, zf1, zf2, zf3, -⟩ := (HR2.out.keep hB3.out).all4
  have hfin := ret_end HS.out HZ2.out HS0.out hF3.out hB3.out
  rw [← HRES.out] at hfin
  unfold put4 at hfin
  have HFI := Lib.hid hfin
  clear hfin hF3 hB3
  go_wp2
  exact bodyPost_ret (v := .agg #[.int .i64 fop, .int .i64 fn, .slice fa2 fn2 fc2, .slice fa3 fn3 fc3]) (by simp [results, Tryz.results118, go_sem, z0, z1, z2, z3]) rfl HFI.out
end Go.Proofs.YtgnloodmbgdgdaaGreat
namespace Go.Proofs.YtgnloodmbgdgdaaGreat
open Go.RowKit Go.Shelf
set_option maxHeartbeats 8000000 in
set_option maxRecDepth 100000 in
theorem neg_step (m : Nat) (hm : m + 1 ≤ 1000000) (KK1 : Hid (KeepK (m + 1))) (KK : Hid (KeepK m)) (KN : Hid (NegK m)) : NegK (m + 1) := by
 intro f hf hg hw b4 b3 S0 c d W hS0 hE hT
 have hwf := (Fo.wf_eq f).1 hw
 have hsz := f.size_eq
 have hpg := pushG_eq true f
 obtain ⟨a2, c2, a3, c3, rfl, rfl, hn2, hn3, hlr⟩ : ∃ a2 c2 a3 c3, c = .slice a2 f.is.length c2 ∧ d = .slice a3 f.ks.length c3 ∧ True ∧ True ∧ True := by
  obtain ⟨r, e1, e2, e3, e4, -⟩ := hT.shape
  exact ⟨_, _, _, _, by rw [e1, e3], by rw [e2, e4], trivial, trivial, trivial⟩
 obtain ⟨W1, hW1⟩ : ∃ W1, W1 = W.alloc (.cells #[.int .i64 f.op, .int .i64 f.n, .slice a2 f.is.length c2, .slice a3 f.ks.length c3] 29) := ⟨_, rfl⟩
 have hS1 : Since W W1 := by rw [hW1]; exact Since.alloc (since_r _) _
 have hX1 : BoxL W.heap.size [.int .i64 f.op, .int .i64 f.n, .slice a2 f.is.length c2, .slice a3 f.ks.length c3] W1 := by rw [hW1]; exact BoxL.made W _ _
 have hz1 : W1.heap.size = W.heap.size + 1 := by rw [hW1, World.size_alloc]
 obtain ⟨W2, hW2⟩ : ∃ W2, W2 = W1.alloc (.cells #[.int .i64 0, .int .i64 0, .slice none 0 0, .slice none 0 0] 29) := ⟨_, rfl⟩
 have hS2 : Since W1 W2 := by rw [hW2]; exact Since.alloc (since_r _) _
 have hR2 : BoxL (W.heap.size + 1) [.int .i64 0, .int .i64 0, .slice none 0 0, .slice none 0 0] W2 := by rw [hW2, ← hz1]; exact BoxL.made W1 _ _
 have hz2 : W2.heap.size = W.heap.size + 2 := by rw [hW2, World.size_alloc, hz1]
 have hS : Since W W2 := Since.step hS1 hS2
 have hT2 : ∀ V, Since W V → FS (fun k => S0 k ∧ k < V.heap.size) V f (.slice a2 f.is.length c2) (.slice a3 f.ks.length c3) := fun V hV => FS.keep (S' := S0) ⟨hV.size, fun b hb _ => hV.block b (hS0 b hb)⟩ (fun b _ hb => hb) f hT
 have hkid := fun (j : Nat) (hj : j < f.ks.length) => kid_at hT.parts' hj
 obtain ⟨o0, o1, o2, o3, -⟩ := (hX1.keep hS2).open4
 obtain ⟨e4, e3⟩ := hE.since hS
 have HT2 := Lib.hid hT2
 have HKID := Lib.hid hkid
 have HR2 := Lib.hid hR2
 have HS := Lib.hid hS
 have HZ2 : Hid (W.heap.size + 2 ≤ W2.heap.size) := Lib.hid (by omega)
 have HS0 := Lib.hid hS0
 have HE := Lib.hid hE
 have HW := Lib.hid hw
 have HWF := Lib.hid hwf
 have HG := Lib.hid hg
 have HPG := Lib.hid hpg
 have HFS := Lib.hid hf
 have HFZ := Lib.hid hsz
 clear hT2 hkid hR2 hS hS0 hE hw hwf hg hpg hT hX1 hS1 hS2 hn2 hn3 hlr hz2 hz1 hf hsz
 by_cases h0 : f.op = 0
 ·have e0 : (f.op == 0) = true := by simpa using h0
  have hres : pushG true f = .mk 5 0 [] [] := by rw [HPG.out, if_neg (by omega), if_neg (by decide), if_pos h0]
  have HRES := Lib.hid hres
  have KR := Lib.hid (never_any W2)
  clear h0 hres
  go_enter Tryz.func120, Tryz.ntmps120
  go_upto_region 1 with (fail)
  rw [← hW1, ← hW2]
  clear hW1 hW2
  go_wp2_with fail
  (with_reducible refine KR.out.mono ?_)
  rintro e w4 ⟨⟨fop, fn, fa2, fn2, fc2, fa3, fn3, fc3⟩, rfl, hF3, hB3⟩
  obtain ⟨z0, z1, z2, z3, zf0, zf1, zf2, zf3, -⟩ := (HR2.out.keep hB3.out).all4
  have hfin := ret_end (S0 := S0) HS.out HZ2.out HS0.out (FSr.mono (fun k hk => ⟨hk.1.elim (fun h => h.elim) .inr, hk.2⟩) hF3.out) hB3.out
  rw [← HRES.out] at hfin
  unfold put4 at hfin
  have HFI := Lib.hid hfin
  clear hfin hF3 hB3
  go_wp2
  exact bodyPost_ret (v := .agg #[.int .i64 fop, .int .i64 fn, .slice fa2 fn2 fc2, .slice fa3 fn3 fc3]) (by simp [results, Tryz.results120, go_sem, z0, z1, z2, z3]) rfl HFI.out
 ·have e0 : (f.op == 0) = false := by simpa using h0
  have KI := Lib.hid (isNever_any f.op f.n a2 f.is.length c2 a3 f.ks.length c3 W2)
  have hdec : ∀ q, decide (f.op = 5 ∧ f.ks.length = 0) = q → Calls Tryz.prog 122 #[.agg #[.int .i64 f.op, .int .i64 f.n, .slice a2 f.is.length c2, .slice a3 f.ks.length c3]] W2 fun e w' => e = .returned (.bool q) ∧ Since W2 w' := fun q hq => by rw [← hq]; exact KI.out
  have HDEC := Lib.hid hdec
  clear hdec KI
  by_cases h5z : f.op = 5 ∧ f.ks.length = 0
  ·have hres : pushG true f = .mk 0 0 [] [] := by rw [HPG.out, if_neg (by omega), if_neg (by decide), if_neg h0, if_pos h5z]
   have HRES := Lib.hid hres
   have KI := Lib.hid (HDEC.out true (decide_eq_true h5z))
   clear h0 h5z hres HDEC
   go_enter Tryz.func120, Tryz.ntmps120
   go_upto_region 1 with (fail)
   rw [← hW1, ← hW2]
   clear hW1 hW2
   go_wp2_with fail
   refine KI.out.mono ?_
   rintro e w3 ⟨rfl, hS3⟩
   have HS3 := Lib.hid (Since.step HS.out hS3)
   have HZ3 : Hid (W.heap.size + 2 ≤ w3.heap.size) := Lib.hid (Nat.le_trans HZ2.out hS3.size)
   have HR3 := Lib.hid (HR2.out.keep hS3)
   clear hS3
   have KR := Lib.hid (always_any w3)
   go_wp2_with fail
   (with_reducible refine KR.out.mono ?_)
   rintro e w4 ⟨⟨fop, fn, fa2, fn2, fc2, fa3, fn3, fc3⟩, rfl, hF3, hB3⟩
   obtain ⟨z0, z1, z2, z3, zf0, zf1, zf2, zf3, -⟩ := (HR3.out.keep hB3.out).all4
   have hfin := ret_end (S0 := S0) HS3.out HZ3.out HS0.out (FSr.mono (fun k hk => ⟨hk.1.elim (fun h => h.elim) .inr, hk.2⟩) hF3.out) hB3.out
   rw [← HRES.out] at hfin
   unfold put4 at hfin
   have HFI := Lib.hid hfin
   clear hfin hF3 hB3
   go_wp2
   exact bodyPost_ret (v := .agg #[.int .i64 fop, .int .i64 fn, .slice fa2 fn2 fc2, .slice fa3 fn3 fc3]) (by simp [results, Tryz.results120, go_sem, z0, z1, z2, z3]) rfl HFI.out
  ·have KI := Lib.hid (HDEC.out false (decide_eq_false h5z))
   clear HDEC
   go_enter Tryz.func120, Tryz.ntmps120
   go_upto_region 1 with (fail)
   rw [← hW1, ← hW2]
   clear hW1 hW2
   go_wp2_with fail
   refine KI.out.mono ?_
   rintro e w3 ⟨rfl, hS3⟩
   have HS3 := Lib.hid (Since.step HS.out hS3)
   have HZ3 : Hid (W.heap.size + 2 ≤ w3.heap.size) := Lib.hid (Nat.le_trans HZ2.out hS3.size)
   have HR3 := Lib.hid (HR2.out.keep hS3)
   have o0 := hS3.cell o0
   have o1 := hS3.cell o1
   have o2 := hS3.cell o2
   have o3 := hS3.cell o3
   have e4 := hS3.cell e4
   have e3 := hS3.cell e3
   clear hS3 KI
   by_cases h6 : f.op = 6
   ·have h1 := good_six HG.out h6
    have HOP := Lib.hid h6
    have hl : 0 < f.ks.length := by omega
    have i1 : (0 : Int) < (f.ks.length : Int) := by omega
    have q4 : (f.op == 4) = false := by rw [h6]; rfl
    have q5 : (f.op == 5) = false := by rw [h6]; rfl
    have q6 : (f.op == 6) = true := by rw [h6]; rfl
    clear h1 h6 h0 h5z
    obtain ⟨g3, u, ua, um, ud, va, vm, vd, rfl, hSg, hg3, hcap, hu, u0, u1, u2, u3, hFu⟩ := HKID.out 0 (by omega)
    have hum := List.mem_of_getElem? hu
    have hus := Fo.sizes_mem hum
    have hgl : g3 < W.heap.size := HS0.out g3 hSg
    have v0 := (HS3.out.cell (p := ⟨g3, 0, none⟩) (by simpa using u0))
    have v1 := (HS3.out.cell (p := ⟨g3, 1, none⟩) (by simpa using u1))
    have v2 := (HS3.out.cell (p := ⟨g3, 2, none⟩) (by simpa using u2))
    have v3 := (HS3.out.cell (p := ⟨g3, 3, none⟩) (by simpa using u3))
    have hres : pushG true f = pushG false u := by rw [HPG.out, if_pos HOP.out]; exact pushG1_get hu
    have HRES := Lib.hid hres
    have KQ := Lib.hid fun (V : World) (hV : Since w3 V) => KK.out u (by have := HFS.out; have := HFZ.out; omega) (good_kid HG.out hum) (HWF.out.2 u hum) b4 b3 S0 (.slice ua um ud) (.slice va vm vd) V (fun k hk => Nat.lt_of_lt_of_le (HS0.out k hk) (Since.step HS3.out hV).size) (HE.out.since (Since.step HS3.out hV)) (FS.mono (fun k h => h.1) _ (FS.keep (S' := S0) ⟨(Since.step HS3.out hV).size, fun b hb _ => (Since.step HS3.out hV).block b (HS0.out b hb)⟩ (fun b _ hb => hb) u hFu))
    have hb4 : b4 ≠ W.heap.size + 1 := fun e => by have := block_there (HE.out.1); simp only at this; omega
    have hb3 : b3 ≠ W.heap.size + 1 := fun e => by have := block_there (HE.out.2); simp only at this; omega
    have hbg : g3 ≠ W.heap.size + 1 := by omega
    have hbN : W.heap.size ≠ W.heap.size + 1 := by omega
    clear hu hFu u0 u1 u2 u3 hum hus hres hSg hg3
    go_upto_region 10 with (fail)
    refine wp_region_noPanic ?_
    refine wp_region_held_drew (S := fun w' => w'.cell? ⟨b3, 0, none⟩ = some (.func (.func 118) #[] #[.pointer (some ⟨b4, 0, none⟩), .pointer (some ⟨b3, 0, none⟩)]) ∧ w'.cell? ⟨W.heap.size, 3, none⟩ = some (.slice (some ⟨g3, 0, none⟩) f.ks.length c3) ∧ w'.cell? ⟨g3, 0, none⟩ = some (.int .i64 u.op) ∧ w'.cell? ⟨g3, 1, none⟩ = some (.int .i64 u.n) ∧ w'.cell? ⟨g3, 2, none⟩ = some (.slice ua um ud) ∧ w'.cell? ⟨g3, 3, none⟩ = some (.slice va vm vd)) (by kernel_rfl) (have hd : Since w3 w3.drew := since_d (since_r _); ⟨hd.cell e3, hd.cell o3, hd.cell v0, hd.cell v1, hd.cell v2, hd.cell v3⟩) (fun hHeld => ?_)
    refine wpAnyH_take (i := 0) (oi := { dst := some 32, op := Op.load 67 (Operand.tmp 2), type := 67, pos := _, after := #[], guard := none }) (v := ?_) rfl (by kernel_rfl) (by kernel_rfl) (by kernel_rfl) (fun _ _ _ h => h) (Or.inl ⟨by rfl, ?_⟩) (by assumption) ?_
    rotate_left 1
    ·(intro w hSw; (try dsimp only at hSw); go_simp; first | done | with_reducible rfl)
    try simp only [Act.put, List.setIfInBounds_toArray, List.set_cons_zero, List.set_cons_succ]
    refine wpAnyH_take (i := 1) (oi := ⟨some 33, Op.fieldAddr 29 (Operand.tmp 3) 3, 0, _, _, none⟩) (v := ?_) rfl (by kernel_rfl) (by kernel_rfl) (by kernel_rfl) (fun _ _ _ h => h) (Or.inl ⟨by rfl, ?_⟩) (by assumption) ?_
    rotate_left 1
    ·(intro w hSw; (try dsimp only at hSw); go_simp; first | done | with_reducible rfl)
    try simp only [Act.put, List.setIfInBounds_toArray, List.set_cons_zero, List.set_cons_succ]
    refine wpAnyH_take (i := 2) (oi := ⟨some 34, Op.load 23 (Operand.tmp 33), 23, _, _, none⟩) (v := ?_) rfl (by kernel_rfl) (by kernel_rfl) (by kernel_rfl) (fun _ _ _ h => h) (Or.inl ⟨by rfl, ?_⟩) (by assumption) ?_
    rotate_left 1
    ·(intro w hSw; (try dsimp only at hSw); go_simp; first | done | with_reducible rfl)
    try simp only [Act.put, List.setIfInBounds_toArray, List.set_cons_zero, List.set_cons_succ]
    refine wpAnyH_take (i := 3) (oi := ⟨some 35, Op.indexAddr 23 (Operand.tmp 34) (Operand.const (Value.int IntKind.i64 0)), 0, _, _, none⟩) (v := ?_) rfl (by kernel_rfl) (by kernel_rfl) (by kernel_rfl) (fun _ _ _ h => h) (Or.inl ⟨by rfl, ?_⟩) (by assumption) ?_
    rotate_left 1
    ·(intro w hSw; (try dsimp only at hSw); go_simp; first | done | with_reducible rfl)
    try simp only [Act.put, List.setIfInBounds_toArray, List.set_cons_zero, List.set_cons_succ]
    refine wpAnyH_take (i := 4) (oi := ⟨some 36, Op.load 29 (Operand.tmp 35), 29, _, _, none⟩) (v := ?_) rfl (by kernel_rfl) (by kernel_rfl) (by kernel_rfl) (fun _ _ _ h => h) (Or.inl ⟨by rfl, ?_⟩) (by assumption) ?_
    rotate_left 1
    ·(intro w hSw; (try dsimp only at hSw); go_simp; first | done | with_reducible rfl)
    try simp only [Act.put, List.setIfInBounds_toArray, List.set_cons_zero, List.set_cons_succ]
    refine wpAnyH_ready (rs := [5]) (by kernel_rfl) (by simp) ?_
    refine AllReadyH.cons (o := ⟨some 37, Op.call { callee := Callee.value (Operand.tmp 32), args := #[Operand.tmp 36], argTypes := #[29] }, 29, _, _, none⟩) rfl (fun K hK => ?_) AllReadyH.nil
    go_simp
    go_at_call 118
    refine (KQ.out _ (since_d (since_r _))).mono ?_
    rintro e w9 ⟨⟨fop, fn, fa2, fn2, fc2, fa3, fn3, fc3⟩, rfl, hF3, hB3⟩
    have hs9 : Since w3 w9 := Since.step (since_d (since_r _)) hB3.out
    go_wp2_with fail
    refine hK.out _ _ ?_ (fun hHeld => ?_)
    ·exact ⟨hs9.cell e3, hs9.cell o3, hs9.cell v0, hs9.cell v1, hs9.cell v2, hs9.cell v3⟩
    clear hK K
    try simp only [Act.put, List.setIfInBounds_toArray, List.set_cons_zero, List.set_cons_succ]
    obtain ⟨z0, z1, z2, z3, zf0, zf1, zf2, zf3, -⟩ := (HR3.out.keep hs9).all4
    refine wpAnyH_ready (rs := [6]) (by kernel_rfl) (by simp) ?_
    refine AllReadyH.cons (o := ⟨none, Op.store 29 (Operand.tmp 4) (Operand.tmp 37), 0, _, _, none⟩) rfl (fun K hK => ?_) AllReadyH.nil
    go_simp
    go_wp2_with fail
    refine hK.out _ _ ?_ (fun hHeld => ?_)
    ·exact ⟨cell_set hb3 (cell_set hb3 (cell_set hb3 (cell_set hb3 (hs9.cell e3)))), cell_set hbN (cell_set hbN (cell_set hbN (cell_set hbN (hs9.cell o3)))), cell_set hbg (cell_set hbg (cell_set hbg (cell_set hbg (hs9.cell v0)))), cell_set hbg (cell_set hbg (cell_set hbg (cell_set hbg (hs9.cell v1)))), cell_set hbg (cell_set hbg (cell_set hbg (cell_set hbg (hs9.cell v2)))), cell_set hbg (cell_set hbg (cell_set hbg (cell_set hbg (hs9.cell v3))))⟩
    clear hK K
    try simp only [Act.put, List.setIfInBounds_toArray, List.set_cons_zero, List.set_cons_succ]
    refine wpAnyH_done (by kernel_rfl) ?_ _
    refine NoPanic.normal ?_
    have hfin := ret_end HS3.out HZ3.out HS0.out (FSr.mono (fun k h => h) hF3.out) hs9
    rw [← HRES.out] at hfin
    unfold put4 at hfin
    have HFI := Lib.hid hfin
    clear hfin hF3 hB3
    go_wp2
    exact bodyPost_ret (v := .agg #[.int .i64 fop, .int .i64 fn, .slice fa2 fn2 fc2, .slice fa3 fn3 fc3]) (by simp [results, Tryz.results120, go_sem, z0, z1, z2, z3]) rfl HFI.out
   ·have q6 : (f.op == 6) = false := by simpa using h6
    by_cases h4 : f.op = 4
    ·have bq4 : (f.op == 4) = true := by simpa using h4
     have hres : pushG true f = .mk 5 f.n f.is (f.ks.map (pushG true)) := by rw [HPG.out, if_neg h6, if_neg (by decide), if_neg h0, if_neg h5z, if_pos h4]
     have HRES := Lib.hid hres
     have KR := Lib.hid (rebN_any b4 b3 (pushG true) S0 f (by have := HFS.out; omega) HWF.out.1.2 5 (.slice a2 f.is.length c2) (.slice a3 f.ks.length c3) w3 (fun k hk => Nat.lt_of_lt_of_le (HS0.out k hk) HS3.out.size) (FS.mono (fun k h => h.1) _ (HT2.out w3 HS3.out)) fun u hu c d V hV hFu => KN.out u (by have := HFS.out; have := HFZ.out; have := Fo.sizes_mem hu; omega) (good_kid HG.out hu) (HWF.out.2 u hu) b4 b3 _ c d V (fun k hk => Nat.lt_of_lt_of_le hk.2 hV.size) (HE.out.since (Since.step HS3.out hV)) hFu)
     clear hres h0 h5z h6 h4
     go_wp2_with fail
     (with_reducible refine KR.out.mono ?_)
     rintro e w4 ⟨⟨fop, fn, fa2, fn2, fc2, fa3, fn3, fc3⟩, rfl, hF3, hB3⟩
     obtain ⟨z0, z1, z2, z3, zf0, zf1, zf2, zf3, -⟩ := (HR3.out.keep hB3.out).all4
     have hfin := ret_end (S0 := S0) HS3.out HZ3.out HS0.out hF3.out hB3.out
     rw [← HRES.out] at hfin
     unfold put4 at hfin
     have HFI := Lib.hid hfin
     clear hfin hF3 hB3
     go_wp2
     exact bodyPost_ret (v := .agg #[.int .i64 fop, .int .i64 fn, .slice fa2 fn2 fc2, .slice fa3 fn3 fc3]) (by simp [results, Tryz.results120, go_sem, z0, z1, z2, z3]) rfl HFI.out
    ·have q4 : (f.op == 4) = false := by simpa using h4
     by_cases h5 : f.op = 5
     ·have bq5 : (f.op == 5) = true := by simpa using h5
      have hres : pushG true f = .mk 4 f.n f.is (f.ks.map (pushG true)) := by rw [HPG.out, if_neg h6, if_neg (by decide), if_neg h0, if_neg h5z, if_neg h4, if_pos h5]
      have HRES := Lib.hid hres
      have KR := Lib.hid (rebN_any b4 b3 (pushG true) S0 f (by have := HFS.out; omega) HWF.out.1.2 4 (.slice a2 f.is.length c2) (.slice a3 f.ks.length c3) w3 (fun k hk => Nat.lt_of_lt_of_le (HS0.out k hk) HS3.out.size) (FS.mono (fun k h => h.1) _ (HT2.out w3 HS3.out)) fun u hu c d V hV hFu => KN.out u (by have := HFS.out; have := HFZ.out; have := Fo.sizes_mem hu; omega) (good_kid HG.out hu) (HWF.out.2 u hu) b4 b3 _ c d V (fun k hk => Nat.lt_of_lt_of_le hk.2 hV.size) (HE.out.since (Since.step HS3.out hV)) hFu)
      clear hres h0 h5z h6 h5
      go_wp2_with fail
      (with_reducible refine KR.out.mono ?_)
      rintro e w4 ⟨⟨fop, fn, fa2, fn2, fc2, fa3, fn3, fc3⟩, rfl, hF3, hB3⟩
      obtain ⟨z0, z1, z2, z3, zf0, zf1, zf2, zf3, -⟩ := (HR3.out.keep hB3.out).all4
      have hfin := ret_end (S0 := S0) HS3.out HZ3.out HS0.out hF3.out hB3.out
      rw [← HRES.out] at hfin
      unfold put4 at hfin
      have HFI := Lib.hid hfin
      clear hfin hF3 hB3
      go_wp2
      exact bodyPost_ret (v := .agg #[.int .i64 fop, .int .i64 fn, .slice fa2 fn2 fc2, .slice fa3 fn3 fc3]) (by simp [results, Tryz.results120, go_sem, z0, z1, z2, z3]) rfl HFI.out
     ·have q5 : (f.op == 5) = false := by simpa using h5
      have hres : pushG true f = .mk 6 0 [] [pushG false f] := by rw [HPG.out, if_neg h6, if_neg (by decide), if_neg h0, if_neg h5z, if_neg h4, if_neg h5, pushG_eq false f, if_neg h6, if_pos rfl]
      have HRES := Lib.hid hres
      have KQ := Lib.hid (KK1.out f HFS.out HG.out HW.out b4 b3 S0 (.slice a2 f.is.length c2) (.slice a3 f.ks.length c3) w3 (fun k hk => Nat.lt_of_lt_of_le (HS0.out k hk) HS3.out.size) (HE.out.since HS3.out) (FS.mono (fun k h => h.1) _ (HT2.out w3 HS3.out)))
      clear hres h0 h4 h5 h6 h5z
      go_wp2_with fail
      refine KQ.out.mono ?_
      rintro e w5 ⟨⟨gop, gn, ga2, gn2, gc2, ga3, gn3, gc3⟩, rfl, hF5, hB5⟩
      have KT := Lib.hid (gnot_any _ _ w5 hF5.out)
      have HB5 := Lib.hid hB5.out
      simp only at KT
      clear hF5 hB5 KQ
      go_wp2_with fail
      refine KT.out.mono ?_
      rintro e w4 ⟨⟨fop, fn, fa2, fn2, fc2, fa3, fn3, fc3⟩, rfl, hF3, hB3⟩
      have hs4 : Since w3 w4 := Since.step HB5.out hB3.out
      obtain ⟨z0, z1, z2, z3, zf0, zf1, zf2, zf3, -⟩ := (HR3.out.keep hs4).all4
      have hfin := ret_end (S0 := S0) HS3.out HZ3.out HS0.out (FSr.mono (fun k hk => ⟨by
       have hzz : w3.drew.heap.size = w3.heap.size := rfl
       have hz5 := HB5.out.size
       rcases hk.1 with h | h
       ·exact h.1
       ·exact .inr (by omega), hk.2⟩) hF3.out) hs4
      rw [← HRES.out] at hfin
      unfold put4 at hfin
      have HFI := Lib.hid hfin
      clear hfin hF3 hB3
      go_wp2
      exact bodyPost_ret (v := .agg #[.int .i64 fop, .int .i64 fn, .slice fa2 fn2 fc2, .slice fa3 fn3 fc3]) (by simp [results, Tryz.results120, go_sem, z0, z1, z2, z3]) rfl HFI.out
theorem pushG_all : ∀ m : Nat, m ≤ 1000000 → KeepK m ∧ NegK m
 | 0, _ => ⟨fun f hf => by have := f.size_pos; omega, fun f hf => by have := f.size_pos; omega⟩
 | m + 1, h => by
  obtain ⟨h1, h2⟩ := pushG_all m (by omega)
  have h3 := keep_step m h (Lib.hid h1) (Lib.hid h2)
  exact ⟨h3, neg_step m h (Lib.hid h3) (Lib.hid h1) (Lib.hid h2)⟩
end Go.Proofs.YtgnloodmbgdgdaaGreat
