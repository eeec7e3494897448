import Derived.Test.YtgnloodmbgdgdaaGreatFB36
import Derived.Test.YtgnloodmbgdgdaaGreatFB21
namespace Go.Proofs.YtgnloodmbgdgdaaGreat
open Go.RowKit Go.Shelf
theorem ret_to {S0 S1 : Nat → Prop} {f : Fo} {W w : World} {r : Fr} (hS : Since W w) (hS0 : ∀ k, S0 k → k < W.heap.size) (hF : FSr S1 w f r) (hs : ∀ k, S1 k → (S0 k ∨ W.heap.size + 2 ≤ k) ∧ k < w.heap.size) :
  FoOut S0 f W (.returned (.agg #[.int .i64 r.op, .int .i64 r.n, .slice r.a2 r.n2 r.c2, .slice r.a3 r.n3 r.c3])) (put4 w (W.heap.size + 1) (.int .i64 r.op) (.int .i64 r.n) (.slice r.a2 r.n2 r.c2) (.slice r.a3 r.n3 r.c3)) :=
 put4_end hS (by omega) r (hF.mono fun k hk => ⟨by
  rcases (hs k hk).1 with h | h
  ·exact .inl ⟨h, hS0 k h⟩
  ·exact .inr ⟨by omega, by omega⟩, (hs k hk).2⟩) _ _ rfl rfl
theorem FoOut.to {S0 : Nat → Prop} {f g : Fo} {W w : World} {e : Ending} (h : FoOut S0 f W e w) (he : g = f) : FoOut S0 g W e w := he ▸ h
theorem ok_alwaysF : OkF alwaysF := ⟨by simp [Fo.size, Fo.sizes, alwaysF], wf_zero 0⟩
theorem ok_neverF : OkF neverF := ⟨by simp [Fo.size, Fo.sizes, neverF], wf_zero 5⟩
theorem kid0_get {ks : List Fo} {u : Fo} (h : ks[0]? = some u) : kid0 ks = u := by
 cases ks with
 | nil => simp at h
 | cons k ks => simpa [kid0] using h
theorem neverB_dec (k : Fo) (n3 : Nat) (h : n3 = k.ks.length) (op : Int) (ho : k.op = op) : decide (op = 5 ∧ n3 = 0) = neverB k := by
 subst h ho
 rfl
set_option maxHeartbeats 8000000 in
set_option maxRecDepth 100000 in
theorem opp_any (f : Fo) (hg : f.good = true) (S0 : Nat → Prop) (r : Fr) (W : World) (hS0 : ∀ k, S0 k → k < W.heap.size) (hT : FSr S0 W f r) :
  Calls Tryz.prog 125 #[.agg #[.int .i64 r.op, .int .i64 r.n, .slice r.a2 r.n2 r.c2, .slice r.a3 r.n3 r.c3]] W (FoOut S0 (oppF f) W) := by
 have hlen := hT.lens
 have hFK := hT.2.2.parts'
 obtain ⟨op, nn, a2, n2, c2, a3, n3, c3⟩ := r
 simp only at hlen hFK ⊢
 have hop : f.op = op := hT.1
 obtain ⟨W2, hW2⟩ : ∃ W2, W2 = (W.alloc (.cells #[.int .i64 op, .int .i64 nn, .slice a2 n2 c2, .slice a3 n3 c3] 29)).alloc (.cells #[.int .i64 0, .int .i64 0, .slice none 0 0, .slice none 0 0] 29) := ⟨_, rfl⟩
 have hS2 : Since W W2 := by rw [hW2]; exact Since.alloc (Since.alloc (since_r _) _) _
 have hX2 : BoxL W.heap.size [.int .i64 op, .int .i64 nn, .slice a2 n2 c2, .slice a3 n3 c3] W2 := by rw [hW2]; exact (BoxL.made W _ _).under _
 have hR2 : BoxL (W.heap.size + 1) [.int .i64 0, .int .i64 0, .slice none 0 0, .slice none 0 0] W2 := by
  rw [hW2]
  have := BoxL.made (W.alloc (.cells #[.int .i64 op, .int .i64 nn, .slice a2 n2 c2, .slice a3 n3 c3] 29)) #[.int .i64 0, .int .i64 0, .slice none 0 0, .slice none 0 0] 29
  rwa [World.size_alloc] at this
 have hz2 : W2.heap.size = W.heap.size + 2 := by rw [hW2, World.size_alloc, World.size_alloc]
 have HX2 := Lib.hid hX2
 have HR2 := Lib.hid hR2
 have HS2 := Lib.hid hS2
 have HZ2 := Lib.hid hz2
 have HS0 := Lib.hid hS0
 have HT := Lib.hid hT
 have HKD := Lib.hid fun (j : Nat) (hj : j < n3) => kid_at hFK hj
 have HG := Lib.hid hg
 have HOP := Lib.hid hop
 have KI := Lib.hid (isNever_any op nn a2 n2 c2 a3 n3 c3 W2)
 rw [neverB_dec f n3 hlen.2 op hop] at KI
 have HL := Lib.hid hlen.2
 obtain ⟨o0, o1, o2, o3, -⟩ := hX2.open4
 clear hX2 hR2 hS2 hz2 hS0 hT hFK hg hop hlen
 by_cases h0 : op = 0
 ·subst h0
  have KR := Lib.hid (never_any W2)
  go_enter Tryz.func125, Tryz.ntmps125
  go_upto_region 1 with (fail)
  rw [← hW2]
  clear hW2
  go_wp2_with fail
  (with_reducible refine KR.out.mono ?_)
  rintro e w8 ⟨⟨fop, fn, fa2, fn2, fc2, fa3, fn3, fc3⟩, rfl, hF8, hB8⟩
  obtain ⟨z0, z1, z2, z3, zf0, zf1, zf2, zf3, -⟩ := (HR2.out.keep hB8.out).all4
  have hfin := FoOut.to (ret_to (S0 := S0) (Since.step HS2.out hB8.out) HS0.out hF8.out (by intro k hk; have h1 := hk.1; have h2 := HZ2.out; exact ⟨.inr (by rcases h1 with h | h; exact h.elim; omega), hk.2⟩)) (show oppF f = neverF from by unfold oppF; rw [if_pos HOP.out])
  unfold put4 at hfin
  have HFI := Lib.hid hfin
  clear hfin hF8 hB8
  go_wp2
  exact bodyPost_ret (v := .agg #[.int .i64 fop, .int .i64 fn, .slice fa2 fn2 fc2, .slice fa3 fn3 fc3]) (by simp [results, Tryz.results125, go_sem, z0, z1, z2, z3]) rfl HFI.out
 ·have e0 : (op == 0) = false := by simpa using h0
  have h0' : f.op ≠ 0 := fun e => h0 (HOP.out ▸ e)
  by_cases hn : neverB f = true
  ·rw [hn] at KI
   go_enter Tryz.func125, Tryz.ntmps125
   go_upto_region 1 with (fail)
   rw [← hW2]
   clear hW2
   go_wp2_with fail
   refine KI.out.mono ?_
   rintro e w3 ⟨rfl, hr⟩
   have HS3 := Lib.hid (Since.step HS2.out hr)
   have HR3 := Lib.hid (HR2.out.keep hr)
   have HZ3 : Hid (W.heap.size + 2 ≤ w3.heap.size) := Lib.hid (by have := hr.size; have := HZ2.out; omega)
   clear hr o0 o1 o2 o3
   have KR := Lib.hid (always_any w3)
   go_wp2_with fail
   (with_reducible refine KR.out.mono ?_)
   rintro e w8 ⟨⟨fop, fn, fa2, fn2, fc2, fa3, fn3, fc3⟩, rfl, hF8, hB8⟩
   obtain ⟨z0, z1, z2, z3, zf0, zf1, zf2, zf3, -⟩ := (HR3.out.keep hB8.out).all4
   have hfin := FoOut.to (ret_to (S0 := S0) (Since.step HS3.out hB8.out) HS0.out hF8.out (by intro k hk; have h1 := hk.1; have h2 := HZ3.out; exact ⟨.inr (by rcases h1 with h | h; exact h.elim; omega), hk.2⟩)) (show oppF f = alwaysF from by unfold oppF; rw [if_neg h0', if_pos hn])
   unfold put4 at hfin
   have HFI := Lib.hid hfin
   clear hfin hF8 hB8
   go_wp2
   exact bodyPost_ret (v := .agg #[.int .i64 fop, .int .i64 fn, .slice fa2 fn2 fc2, .slice fa3 fn3 fc3]) (by simp [results, Tryz.results125, go_sem, z0, z1, z2, z3]) rfl HFI.out
  ·rw [Bool.eq_false_iff.2 hn] at KI
   go_enter Tryz.func125, Tryz.ntmps125
   go_upto_region 1 with (fail)
   rw [← hW2]
   clear hW2
   go_wp2_with fail
   refine KI.out.mono ?_
   rintro e w3 ⟨rfl, hr⟩
   have HS3 := Lib.hid (Since.step HS2.out hr)
   have HR3 := Lib.hid (HR2.out.keep hr)
   have HZ3 : Hid (W.heap.size + 2 ≤ w3.heap.size) := Lib.hid (by have := hr.size; have := HZ2.out; omega)
   obtain ⟨o0, o1, o2, o3, -⟩ := (HX2.out.keep hr).open4
   clear hr
   by_cases h6 : op = 6
   ·subst h6
    have hl := good_six HG.out HOP.out
    have hn3 : n3 = 1 := by rw [HL.out]; exact hl
    have i1 : (0 : Int) < (n3 : Int) := by omega
    obtain ⟨g3, u, ua, um, ud, va, vm, vd, rfl, hSg, hg3, hcap, hu, u0, u1, u2, u3, hFu⟩ := HKD.out 0 (by omega)
    have v0 := HS3.out.cell (p := ⟨g3, 0, none⟩) (by simpa using u0)
    have v1 := HS3.out.cell (p := ⟨g3, 1, none⟩) (by simpa using u1)
    have v2 := HS3.out.cell (p := ⟨g3, 2, none⟩) (by simpa using u2)
    have v3 := HS3.out.cell (p := ⟨g3, 3, none⟩) (by simpa using u3)
    have hk0 : kid0 f.ks = u := kid0_get hu
    have hF3 : FSr S0 w3 u ⟨u.op, u.n, ua, um, ud, va, vm, vd⟩ := FSr.since ⟨rfl, rfl, hFu⟩ HS3.out HS0.out
    obtain ⟨z0, z1, z2, z3, zf0, zf1, zf2, zf3, -⟩ := HR3.out.all4
    have hfin := FoOut.to (ret_to (S0 := S0) HS3.out HS0.out hF3 (fun k hk => ⟨.inl hk, Nat.lt_of_lt_of_le (HS0.out k hk) HS3.out.size⟩)) (show oppF f = u by unfold oppF; rw [if_neg h0', if_neg hn, if_pos HOP.out, hk0])
    unfold put4 at hfin
    have HFI := Lib.hid hfin
    clear hfin hF3 hk0 hFu hu u0 u1 u2 u3 hSg hg3 hn3 hl
    go_wp2
    exact bodyPost_ret (v := .agg #[.int .i64 u.op, .int .i64 u.n, .slice ua um ud, .slice va vm vd]) (by simp [results, Tryz.results125, go_sem, z0, z1, z2, z3]) rfl HFI.out
   ·have e6 : (op == 6) = false := by simpa using h6
    have h6' : f.op ≠ 6 := fun e => h6 (HOP.out ▸ e)
    have KR := Lib.hid (gnot_any f ⟨op, nn, a2, n2, c2, a3, n3, c3⟩ w3 (HT.out.since HS3.out HS0.out))
    simp only at KR
    go_wp2_with fail
    (with_reducible refine KR.out.mono ?_)
    rintro e w8 ⟨⟨fop, fn, fa2, fn2, fc2, fa3, fn3, fc3⟩, rfl, hF8, hB8⟩
    obtain ⟨z0, z1, z2, z3, zf0, zf1, zf2, zf3, -⟩ := (HR3.out.keep hB8.out).all4
    have hfin := FoOut.to (ret_to (S0 := S0) (Since.step HS3.out hB8.out) HS0.out hF8.out (by intro k hk; have h1 := hk.1; have h2 := HZ3.out; exact ⟨by rcases h1 with h | h; exact .inl h; exact .inr (by omega), hk.2⟩)) (show oppF f = .mk 6 0 [] [f] from by unfold oppF; rw [if_neg h0', if_neg hn, if_neg h6'])
    unfold put4 at hfin
    have HFI := Lib.hid hfin
    clear hfin hF8 hB8
    go_wp2
    exact bodyPost_ret (v := .agg #[.int .i64 fop, .int .i64 fn, .slice fa2 fn2 fc2, .slice fa3 fn3 fc3]) (by simp [results, Tryz.results125, go_sem, z0, z1, z2, z3]) rfl HFI.out
def SimK (m : Nat) : Prop := ∀ (f : Fo), f.size ≤ m → f.good = true → f.wf → ∀ (S0 : Nat → Prop) (c d : Value) (W : World), (∀ k, S0 k → k < W.heap.size) → FS S0 W f c d →
 Calls Tryz.prog 67 #[.agg #[.int .i64 f.op, .int .i64 f.n, c, d]] W (FoOut S0 (simpleF f) W)
set_option maxHeartbeats 16000000 in
set_option maxRecDepth 100000 in
theorem sim_step (m : Nat) (hm : m + 1 ≤ 1000000) (K : Hid (SimK m)) : SimK (m + 1) := by
 intro f hf hg hw S0 c d W hS0 hT
 have hwf := (Fo.wf_eq f).1 hw
 have hsz := f.size_eq
 have hse := simpleF_eq f
 obtain ⟨a2, c2, a3, c3, rfl, rfl⟩ : ∃ a2 c2 a3 c3, c = .slice a2 f.is.length c2 ∧ d = .slice a3 f.ks.length c3 := by
  obtain ⟨r, e1, e2, e3, e4, -⟩ := hT.shape
  exact ⟨_, _, _, _, by rw [e1, e3], by rw [e2, e4]⟩
 obtain ⟨W2, hW2⟩ : ∃ W2, W2 = (W.alloc (.cells #[.int .i64 f.op, .int .i64 f.n, .slice a2 f.is.length c2, .slice a3 f.ks.length c3] 29)).alloc (.cells #[.int .i64 0, .int .i64 0, .slice none 0 0, .slice none 0 0] 29) := ⟨_, rfl⟩
 have hS2 : Since W W2 := by rw [hW2]; exact Since.alloc (Since.alloc (since_r _) _) _
 have hX2 : BoxL W.heap.size [.int .i64 f.op, .int .i64 f.n, .slice a2 f.is.length c2, .slice a3 f.ks.length c3] W2 := by rw [hW2]; exact (BoxL.made W _ _).under _
 have hR2 : BoxL (W.heap.size + 1) [.int .i64 0, .int .i64 0, .slice none 0 0, .slice none 0 0] W2 := by
  rw [hW2]
  have := BoxL.made (W.alloc (.cells #[.int .i64 f.op, .int .i64 f.n, .slice a2 f.is.length c2, .slice a3 f.ks.length c3] 29)) #[.int .i64 0, .int .i64 0, .slice none 0 0, .slice none 0 0] 29
  rwa [World.size_alloc] at this
 have hz2 : W2.heap.size = W.heap.size + 2 := by rw [hW2, World.size_alloc, World.size_alloc]
 have KR := Lib.hid (rebS_any simpleF S0 f (by omega) hwf.1.2 f.op (.slice a2 f.is.length c2) (.slice a3 f.ks.length c3) W2 (fun k hk => Nat.lt_of_lt_of_le (hS0 k hk) hS2.size) (FS.mono (fun k h => h.1) _ (FS.keep (S' := S0) ⟨hS2.size, fun b hb _ => hS2.block b (hS0 b hb)⟩ (fun b _ hb => hb) f hT)) fun u hu c d V hV hFu => K.out u (by have := Fo.sizes_mem hu; omega) (good_kid hg hu) (hwf.2 u hu) _ c d V (fun k hk => Nat.lt_of_lt_of_le hk.2 hV.size) hFu)
 have HKOK : Hid (∀ k ∈ f.ks.map simpleF, OkF k ∧ k.good = true) := Lib.hid fun k hk => by
  obtain ⟨u, hu, rfl⟩ := List.mem_map.1 hk
  have h1 := simple_keep u.size u (Nat.le_refl _) (good_kid hg hu) (hwf.2 u hu)
  have h2 := Fo.sizes_mem hu
  exact ⟨⟨by have := h1.1; omega, h1.2.2⟩, h1.2.1⟩
 have HKS : Hid (Fo.sizes (f.ks.map simpleF) ≤ 1000000) := Lib.hid (by
  have h1 := map_sizes (g := simpleF) (ks := f.ks) fun k hk => (simple_keep k.size k (Nat.le_refl _) (good_kid hg hk) (hwf.2 k hk)).1
  omega)
 have hop7 : f.op = 0 ∨ f.op = 1 ∨ f.op = 2 ∨ f.op = 3 ∨ f.op = 4 ∨ f.op = 5 ∨ f.op = 6 := by
  have h1 := hg
  rw [f.good_eq, Bool.and_eq_true] at h1
  have h2 := h1.1
  unfold properB at h2
  by_cases q0 : f.op = 0
  ·exact .inl q0
  by_cases q1 : f.op = 1
  ·exact .inr (.inl q1)
  by_cases q2 : f.op = 2
  ·exact .inr (.inr (.inl q2))
  by_cases q3 : f.op = 3
  ·exact .inr (.inr (.inr (.inl q3)))
  by_cases q4 : f.op = 4
  ·exact .inr (.inr (.inr (.inr (.inl q4))))
  by_cases q5 : f.op = 5
  ·exact .inr (.inr (.inr (.inr (.inr (.inl q5)))))
  by_cases q6 : f.op = 6
  ·exact .inr (.inr (.inr (.inr (.inr (.inr q6)))))
  ·simp [q0, q1, q2, q3, q4, q5, q6] at h2
 have HL36 : Hid ((f.op = 3 ∨ f.op = 6) → f.ks.length = 1) := Lib.hid fun h => by
  have h1 := hg
  rw [f.good_eq, Bool.and_eq_true] at h1
  have h2 := h1.1
  unfold properB at h2
  rcases h with h | h <;> simp [h] at h2 <;> exact h2.2.2
 have HX2 := Lib.hid hX2
 have HR2 := Lib.hid hR2
 have HS2 := Lib.hid hS2
 have HZ2 := Lib.hid hz2
 have HS0 := Lib.hid hS0
 obtain ⟨o0, o1, o2, o3, -⟩ := hX2.open4
 clear hX2 hR2 hS2 hz2 hS0 hT hg hw hwf hf hsz K hm
 generalize hks : f.ks.map simpleF = ks at *
 have HKL : Hid (ks.length = f.ks.length) := Lib.hid (by rw [← hks, List.length_map])
 clear hks
 generalize simpleF f = sf at *
 have HSE := Lib.hid hse
 clear hse
 generalize f.ks.length = l3 at *
 generalize hil : f.is.length = l2 at *
 have HIL := Lib.hid hil
 clear hil
 generalize f.is = is at *
 generalize f.n = nn at *
 generalize f.op = op at *
 go_enter Tryz.func67, Tryz.ntmps67
 go_upto_region 1 with (fail)
 rw [← hW2]
 clear hW2
 go_wp2_with fail
 (with_reducible refine KR.out.mono ?_)
 rintro e w3 ⟨⟨rop, rn, ra2, rn2, rc2, ra3, rn3, rc3⟩, rfl, hF3, hB3⟩
 have hlen := hF3.out.lens
 have hrop : op = rop := hF3.out.1
 have hrn : nn = rn := hF3.out.2.1
 simp only at hlen
 have e2 : rn2 = l2 := by rw [hlen.1, ← HIL.out]; rfl
 have e3 : rn3 = l3 := by rw [hlen.2, ← HKL.out]; rfl
 subst e2 e3 hrop hrn
 obtain ⟨w4, hw4⟩ : ∃ w4, w4 = w3.alloc (.cells #[.int .i64 op, .int .i64 nn, .slice ra2 rn2 rc2, .slice ra3 rn3 rc3] 29) := ⟨_, rfl⟩
 have hS4 : Since w3 w4 := by rw [hw4]; exact Since.alloc (since_r _) _
 have hX4 : BoxL w3.heap.size [.int .i64 op, .int .i64 nn, .slice ra2 rn2 rc2, .slice ra3 rn3 rc3] w4 := by rw [hw4]; exact BoxL.made w3 _ _
 obtain ⟨S1, hS1⟩ : ∃ S1 : Nat → Prop, S1 = fun k => (S0 k ∨ W2.heap.size ≤ k) ∧ k < w3.heap.size := ⟨_, rfl⟩
 have hF4 : FSr S1 w4 (.mk op nn is ks) ⟨op, nn, ra2, rn2, rc2, ra3, rn3, rc3⟩ := by rw [hS1]; exact hF3.out.since hS4 (fun b hb => hb.2)
 have HS1 : Hid (∀ k, S1 k → (S0 k ∨ W.heap.size + 2 ≤ k) ∧ k < w4.heap.size) := Lib.hid fun k hk => by
  rw [hS1] at hk
  have h1 := HZ2.out
  have h2 := hS4.size
  exact ⟨hk.1.imp (fun h => h) (fun h => by omega), by have := hk.2; omega⟩
 have HS4 := Lib.hid (Since.step (Since.step HS2.out hB3.out) hS4)
 have HR4 := Lib.hid ((HR2.out.keep hB3.out).keep hS4)
 have HX4 := Lib.hid hX4
 have HF4 := Lib.hid hF4
 have HZ4 : Hid (W.heap.size + 2 ≤ w3.heap.size ∧ w3.heap.size < w4.heap.size) := Lib.hid ⟨by have := hB3.out.size; have := HZ2.out; omega, hX4.1⟩
 have HKD := Lib.hid fun (j : Nat) (hj : j < rn3) => kid_at hF4.2.2.parts' hj
 clear hF3 hB3 hlen hS1 hF4 hS4 KR HX2 HR2
 go_upto_region 2 with (fail)
 rw [← hw4]
 clear hw4 o0 o1 o2 o3
 generalize w3.heap.size = N3 at *
 obtain ⟨x0, x1, x2, x3, -⟩ := hX4.open4
 clear hX4
 have HG := Lib.hid fun (h : sf = .mk op nn is ks) => (by
  have hfin := FoOut.to (ret_to (S0 := S0) HS4.out HS0.out HF4.out HS1.out) h
  unfold put4 at hfin
  exact hfin : FoOut S0 sf W (.returned (.agg #[.int .i64 op, .int .i64 nn, .slice ra2 rn2 rc2, .slice ra3 rn3 rc3])) _)
 obtain ⟨z0, z1, z2, z3, zf0, zf1, zf2, zf3, -⟩ := HR4.out.all4
 rcases hop7 with rfl | rfl | rfl | rfl | rfl | rfl | rfl
 ·have HFI := Lib.hid (HG.out (by rw [HSE.out]; simp [nodeS]))
  clear HG
  go_wp2
  exact bodyPost_ret (v := .agg #[.int .i64 0, .int .i64 nn, .slice ra2 rn2 rc2, .slice ra3 rn3 rc3]) (by simp [results, Tryz.results67, go_sem, z0, z1, z2, z3]) rfl HFI.out
 ·have HFI := Lib.hid (HG.out (by rw [HSE.out]; simp [nodeS]))
  clear HG
  go_wp2
  exact bodyPost_ret (v := .agg #[.int .i64 1, .int .i64 nn, .slice ra2 rn2 rc2, .slice ra3 rn3 rc3]) (by simp [results, Tryz.results67, go_sem, z0, z1, z2, z3]) rfl HFI.out
 ·by_cases h0 : rn2 = 0
  ·subst h0
   have hi0 : is.length = 0 := HIL.out
   clear HG z0 z1 z2 z3 zf0 zf1 zf2 zf3
   have KN := Lib.hid (never_any w4)
   go_wp2_with fail
   (with_reducible refine KN.out.mono ?_)
   rintro e w8 ⟨⟨fop, fn, fa2, fn2, fc2, fa3, fn3, fc3⟩, rfl, hF8, hB8⟩
   obtain ⟨z0, z1, z2, z3, zf0, zf1, zf2, zf3, -⟩ := (HR4.out.keep hB8.out).all4
   have hfin := FoOut.to (ret_to (S0 := S0) (Since.step HS4.out hB8.out) HS0.out hF8.out (by intro k hk; have h1 := hk.1; have h2 := HZ4.out; exact ⟨.inr (by rcases h1 with h | h; exact h.elim; omega), hk.2⟩)) (show sf = neverF from by rw [HSE.out]; simp [nodeS, hi0])
   unfold put4 at hfin
   have HFI := Lib.hid hfin
   clear hfin hF8 hB8
   go_wp2
   exact bodyPost_ret (v := .agg #[.int .i64 fop, .int .i64 fn, .slice fa2 fn2 fc2, .slice fa3 fn3 fc3]) (by simp [results, Tryz.results67, go_sem, z0, z1, z2, z3]) rfl HFI.out
  ·have hi0 : is.length ≠ 0 := fun e => h0 (HIL.out ▸ e)
   have b0 : ((rn2 : Int) == 0) = false := by rw [beq_eq_false_iff_ne]; omega
   have HFI := Lib.hid (HG.out (by rw [HSE.out]; unfold nodeS; rw [if_neg (fun h => hi0 h.2)]; simp))
   clear HG
   go_wp2
   exact bodyPost_ret (v := .agg #[.int .i64 2, .int .i64 nn, .slice ra2 rn2 rc2, .slice ra3 rn3 rc3]) (by simp [results, Tryz.results67, go_sem, z0, z1, z2, z3]) rfl HFI.out
 ·have hl3 : rn3 = 1 := HL36.out (by decide)
  obtain ⟨g3, u, ua, um, ud, va, vm, vd, rfl, hSg, hg3, hcap, hu, u0, u1, u2, u3, hFu⟩ := HKD.out 0 (by omega)
  simp only [Nat.zero_mul, Nat.zero_add] at u0 u1 u2 u3
  have hk0 : kid0 ks = u := kid0_get hu
  have i1 : (0 : Int) < (rn3 : Int) := by omega
  clear hl3
  have HK0 := Lib.hid hk0
  have HU := Lib.hid (HKOK.out u (List.mem_of_getElem? hu))
  have hFr : FSr S1 w4 u ⟨u.op, u.n, ua, um, ud, va, vm, vd⟩ := ⟨rfl, rfl, hFu⟩
  have HFr := Lib.hid hFr
  have hlv := hFr.lens
  simp only at hlv
  have KI := Lib.hid (isNever_any u.op u.n ua um ud va vm vd w4)
  rw [neverB_dec u vm hlv.2 u.op rfl] at KI
  clear hFr hFu hu hk0 hlv hcap hSg hg3
  by_cases hn : neverB u = true
  ·rw [hn] at KI
   clear HG z0 z1 z2 z3 zf0 zf1 zf2 zf3
   go_wp2_with fail
   refine KI.out.mono ?_
   rintro e w7 ⟨rfl, hr⟩
   have HS7 := Lib.hid (Since.step HS4.out hr)
   have HR7 := Lib.hid (HR4.out.keep hr)
   have HZ7 : Hid (W.heap.size + 2 ≤ w7.heap.size) := Lib.hid (by have := hr.size; have := HZ4.out; omega)
   clear hr x0 x1 x2 x3 u0 u1 u2 u3
   have KN := Lib.hid (never_any w7)
   go_wp2_with fail
   (with_reducible refine KN.out.mono ?_)
   rintro e w8 ⟨⟨fop, fn, fa2, fn2, fc2, fa3, fn3, fc3⟩, rfl, hF8, hB8⟩
   obtain ⟨z0, z1, z2, z3, zf0, zf1, zf2, zf3, -⟩ := (HR7.out.keep hB8.out).all4
   have hfin := FoOut.to (ret_to (S0 := S0) (Since.step HS7.out hB8.out) HS0.out hF8.out (by intro k hk; have h1 := hk.1; have h2 := HZ7.out; exact ⟨.inr (by rcases h1 with h | h; exact h.elim; omega), hk.2⟩)) (show sf = neverF from by rw [HSE.out]; unfold nodeS; rw [if_neg (by simp), if_pos ⟨rfl, by rw [HK0.out]; exact hn⟩])
   unfold put4 at hfin
   have HFI := Lib.hid hfin
   clear hfin hF8 hB8
   go_wp2
   exact bodyPost_ret (v := .agg #[.int .i64 fop, .int .i64 fn, .slice fa2 fn2 fc2, .slice fa3 fn3 fc3]) (by simp [results, Tryz.results67, go_sem, z0, z1, z2, z3]) rfl HFI.out
  ·rw [Bool.eq_false_iff.2 hn] at KI
   clear HG z0 z1 z2 z3 zf0 zf1 zf2 zf3
   go_wp2_with fail
   refine KI.out.mono ?_
   rintro e w7 ⟨rfl, hr⟩
   obtain ⟨x0, x1, x2, x3, -⟩ := (HX4.out.keep hr).open4
   obtain ⟨z0, z1, z2, z3, zf0, zf1, zf2, zf3, -⟩ := (HR4.out.keep hr).all4
   have hfin := FoOut.to (ret_to (S0 := S0) (Since.step HS4.out hr) HS0.out (HF4.out.since hr fun b hb => (HS1.out b hb).2) (fun k hk => ⟨(HS1.out k hk).1, Nat.lt_of_lt_of_le (HS1.out k hk).2 hr.size⟩)) (show sf = .mk 3 nn is ks by rw [HSE.out]; unfold nodeS; rw [if_neg (by simp), if_neg (fun h => hn (by rw [← HK0.out]; exact h.2))]; simp)
   unfold put4 at hfin
   have HFI := Lib.hid hfin
   clear hfin hr u0 u1 u2 u3
   go_wp2
   exact bodyPost_ret (v := .agg #[.int .i64 3, .int .i64 nn, .slice ra2 rn2 rc2, .slice (some ⟨g3, 0, none⟩) rn3 rc3]) (by simp [results, Tryz.results67, go_sem, z0, z1, z2, z3]) rfl HFI.out
 ·clear HG z0 z1 z2 z3 zf0 zf1 zf2 zf3
  have hNE : N3 ≠ W.heap.size + 1 := by have := HZ4.out.1; omega
  have hd4 : Since w4 w4.drew := since_d (since_r _)
  have KA := Lib.hid (always_any w4.drew)
  go_upto_region 8 with (fail)
  refine wp_region_noPanic ?_
  refine wp_region_held_drew (S := fun w' => w'.cell? ⟨N3, 3, none⟩ = some (.slice ra3 rn3 rc3)) (by kernel_rfl) (hd4.cell x3) (fun hHeld => ?_)
  refine wpAnyH_take (i := 0) (oi := ⟨some 42, Op.fieldAddr 29 (Operand.tmp 3) 3, 0, _, _, none⟩) (v := ?_) rfl (by kernel_rfl) (by kernel_rfl) (by kernel_rfl) (fun _ _ _ h => h) (Or.inl ⟨by rfl, ?_⟩) (by assumption) ?_
  rotate_left 1
  ·(intro w hSw; (try dsimp only at hSw); go_simp; first | done | with_reducible rfl)
  try simp only [Act.put, List.setIfInBounds_toArray, List.set_cons_zero, List.set_cons_succ]
  refine wpAnyH_take (i := 1) (oi := ⟨some 43, Op.load 23 (Operand.tmp 42), 23, _, _, none⟩) (v := ?_) rfl (by kernel_rfl) (by kernel_rfl) (by kernel_rfl) (fun _ _ _ h => h) (Or.inl ⟨by rfl, ?_⟩) (by assumption) ?_
  rotate_left 1
  ·(intro w hSw; (try dsimp only at hSw); go_simp; first | done | with_reducible rfl)
  try simp only [Act.put, List.setIfInBounds_toArray, List.set_cons_zero, List.set_cons_succ]
  refine wpAnyH_ready (rs := [2]) (by kernel_rfl) (by simp) ?_
  refine AllReadyH.cons (o := ⟨some 44, Op.call { callee := Callee.value (Operand.func 123), args := #[], argTypes := #[] }, 29, _, _, none⟩) rfl (fun K hK => ?_) AllReadyH.nil
  go_simp
  go_at_call 123
  (with_reducible refine KA.out.mono ?_)
  rintro e w5 ⟨⟨iop, inn, ia2, in2, ic2, ia3, in3, ic3⟩, rfl, hF5, hB5⟩
  have hs5 : Since w4 w5 := Since.step hd4 hB5.out
  have HF5 := Lib.hid (hF5.out.mono (S' := fun k => W.heap.size + 2 ≤ k ∧ k < w5.heap.size) fun k hk => ⟨by have h1 := HZ4.out; rcases hk.1 with h | h; exact h.elim; have h2 : w4.heap.size ≤ k := h; omega, hk.2⟩)
  clear hF5 hB5
  try go_wp2_with fail
  refine hK.out _ _ ?_ (fun hHeld => ?_)
  ·exact hs5.cell x3
  clear hK K
  try simp only [Act.put, List.setIfInBounds_toArray, List.set_cons_zero, List.set_cons_succ]
  have KB := Lib.hid (never_any w5)
  refine wpAnyH_ready (rs := [3]) (by kernel_rfl) (by simp) ?_
  refine AllReadyH.cons (o := ⟨some 45, Op.call { callee := Callee.value (Operand.func 121), args := #[], argTypes := #[] }, 29, _, _, none⟩) rfl (fun K hK => ?_) AllReadyH.nil
  go_simp
  go_at_call 121
  (with_reducible refine KB.out.mono ?_)
  rintro e w6 ⟨⟨jop, jnn, ja2, jn2, jc2, ja3, jn3, jc3⟩, rfl, hF6, hB6⟩
  have hs6 : Since w4 w6 := Since.step hs5 hB6.out
  have HF6 := Lib.hid (hF6.out.mono (S' := fun k => W.heap.size + 2 ≤ k ∧ k < w6.heap.size) fun k hk => ⟨by have h1 := HZ4.out; have h2 := hs5.size; rcases hk.1 with h | h; exact h.elim; omega, hk.2⟩)
  have HF56 := Lib.hid (HF5.out.since hB6.out fun b hb => hb.2)
  have hz56 := hB6.out.size
  clear hF6 hB6
  try go_wp2_with fail
  refine hK.out _ _ ?_ (fun hHeld => ?_)
  ·exact hs6.cell x3
  clear hK K
  try simp only [Act.put, List.setIfInBounds_toArray, List.set_cons_zero, List.set_cons_succ]
  have hsW : Since W w6 := Since.step HS4.out hs6
  have KJ := Lib.hid (joined_any 4 ks alwaysF neverF (fun k => (S0 k ∨ W.heap.size + 2 ≤ k) ∧ k < w6.heap.size) (.slice ra3 rn3 rc3) ⟨iop, inn, ia2, in2, ic2, ia3, in3, ic3⟩ ⟨jop, jnn, ja2, jn2, jc2, ja3, jn3, jc3⟩ w6 (fun k hk => hk.2) (FS.parts' (FSr.mono (S' := fun k => (S0 k ∨ W.heap.size + 2 ≤ k) ∧ k < w6.heap.size) (fun k hk => ⟨(HS1.out k hk).1, Nat.lt_of_lt_of_le (HS1.out k hk).2 hs6.size⟩) (HF4.out.since hs6 fun b hb => (HS1.out b hb).2)).2.2) (HF56.out.mono fun k hk => ⟨.inr hk.1, Nat.lt_of_lt_of_le hk.2 hz56⟩) (HF6.out.mono fun k hk => ⟨.inr hk.1, hk.2⟩) HKS.out (fun k hk => (HKOK.out k hk).1) ok_alwaysF ok_neverF)
  simp only [Fr.v] at KJ
  clear hz56 HF5 HF6 HF56
  refine wpAnyH_ready (rs := [4]) (by kernel_rfl) (by simp) ?_
  refine AllReadyH.cons (o := ⟨some 46, Op.call { callee := Callee.value (Operand.func 126), args := #[Operand.const (Value.int IntKind.i64 4), Operand.tmp 43, Operand.tmp 44, Operand.tmp 45], argTypes := #[3, 23, 29, 29] }, 29, _, _, none⟩) rfl (fun K hK => ?_) AllReadyH.nil
  go_simp
  go_at_call 126
  (with_reducible refine KJ.out.mono ?_)
  rintro e w8 ⟨⟨fop, fn, fa2, fn2, fc2, fa3, fn3, fc3⟩, rfl, hF8, hB8⟩
  have hs8 : Since w4 w8 := Since.step hs6 hB8.out
  try go_wp2_with fail
  refine hK.out _ _ ?_ (fun hHeld => ?_)
  ·exact hs8.cell x3
  clear hK K
  try simp only [Act.put, List.setIfInBounds_toArray, List.set_cons_zero, List.set_cons_succ]
  obtain ⟨z0, z1, z2, z3, zf0, zf1, zf2, zf3, -⟩ := (HR4.out.keep hs8).all4
  refine wpAnyH_ready (rs := [5]) (by kernel_rfl) (by simp) ?_
  refine AllReadyH.cons (o := ⟨none, Op.store 29 (Operand.tmp 2) (Operand.tmp 46), 0, _, _, none⟩) rfl (fun K hK => ?_) AllReadyH.nil
  go_simp
  go_wp2_with fail
  refine hK.out _ _ ?_ (fun hHeld => ?_)
  ·exact cell_set hNE (cell_set hNE (cell_set hNE (cell_set hNE (hs8.cell x3))))
  clear hK K
  try simp only [Act.put, List.setIfInBounds_toArray, List.set_cons_zero, List.set_cons_succ]
  refine wpAnyH_done (by kernel_rfl) ?_ _
  refine NoPanic.normal ?_
  have hfin := FoOut.to (ret_to (S0 := S0) (Since.step hsW hB8.out) HS0.out hF8.out (fun k hk => ⟨by rcases hk.1 with h | h; exact h.1; exact .inr (by have := HZ4.out; have := hs6.size; omega), hk.2⟩)) (show sf = joinP 4 ks alwaysF neverF by rw [HSE.out]; simp [nodeS])
  unfold put4 at hfin
  have HFI := Lib.hid hfin
  clear hfin hF8 hB8
  go_wp2
  exact bodyPost_ret (v := .agg #[.int .i64 fop, .int .i64 fn, .slice fa2 fn2 fc2, .slice fa3 fn3 fc3]) (by simp [results, Tryz.results67, go_sem, z0, z1, z2, z3]) rfl HFI.out
 ·clear HG z0 z1 z2 z3 zf0 zf1 zf2 zf3
  have hNE : N3 ≠ W.heap.size + 1 := by have := HZ4.out.1; omega
  have hd4 : Since w4 w4.drew := since_d (since_r _)
  have KA := Lib.hid (never_any w4.drew)
  go_upto_region 10 with (fail)
  refine wp_region_noPanic ?_
  refine wp_region_held_drew (S := fun w' => w'.cell? ⟨N3, 3, none⟩ = some (.slice ra3 rn3 rc3)) (by kernel_rfl) (hd4.cell x3) (fun hHeld => ?_)
  refine wpAnyH_take (i := 0) (oi := ⟨some 51, Op.fieldAddr 29 (Operand.tmp 3) 3, 0, _, _, none⟩) (v := ?_) rfl (by kernel_rfl) (by kernel_rfl) (by kernel_rfl) (fun _ _ _ h => h) (Or.inl ⟨by rfl, ?_⟩) (by assumption) ?_
  rotate_left 1
  ·(intro w hSw; (try dsimp only at hSw); go_simp; first | done | with_reducible rfl)
  try simp only [Act.put, List.setIfInBounds_toArray, List.set_cons_zero, List.set_cons_succ]
  refine wpAnyH_take (i := 1) (oi := ⟨some 52, Op.load 23 (Operand.tmp 51), 23, _, _, none⟩) (v := ?_) rfl (by kernel_rfl) (by kernel_rfl) (by kernel_rfl) (fun _ _ _ h => h) (Or.inl ⟨by rfl, ?_⟩) (by assumption) ?_
  rotate_left 1
  ·(intro w hSw; (try dsimp only at hSw); go_simp; first | done | with_reducible rfl)
  try simp only [Act.put, List.setIfInBounds_toArray, List.set_cons_zero, List.set_cons_succ]
  refine wpAnyH_ready (rs := [2]) (by kernel_rfl) (by simp) ?_
  refine AllReadyH.cons (o := ⟨some 53, Op.call { callee := Callee.value (Operand.func 121), args := #[], argTypes := #[] }, 29, _, _, none⟩) rfl (fun K hK => ?_) AllReadyH.nil
  go_simp
  go_at_call 121
  (with_reducible refine KA.out.mono ?_)
  rintro e w5 ⟨⟨iop, inn, ia2, in2, ic2, ia3, in3, ic3⟩, rfl, hF5, hB5⟩
  have hs5 : Since w4 w5 := Since.step hd4 hB5.out
  have HF5 := Lib.hid (hF5.out.mono (S' := fun k => W.heap.size + 2 ≤ k ∧ k < w5.heap.size) fun k hk => ⟨by have h1 := HZ4.out; rcases hk.1 with h | h; exact h.elim; have h2 : w4.heap.size ≤ k := h; omega, hk.2⟩)
  clear hF5 hB5
  try go_wp2_with fail
  refine hK.out _ _ ?_ (fun hHeld => ?_)
  ·exact hs5.cell x3
  clear hK K
  try simp only [Act.put, List.setIfInBounds_toArray, List.set_cons_zero, List.set_cons_succ]
  have KB := Lib.hid (always_any w5)
  refine wpAnyH_ready (rs := [3]) (by kernel_rfl) (by simp) ?_
  refine AllReadyH.cons (o := ⟨some 54, Op.call { callee := Callee.value (Operand.func 123), args := #[], argTypes := #[] }, 29, _, _, none⟩) rfl (fun K hK => ?_) AllReadyH.nil
  go_simp
  go_at_call 123
  (with_reducible refine KB.out.mono ?_)
  rintro e w6 ⟨⟨jop, jnn, ja2, jn2, jc2, ja3, jn3, jc3⟩, rfl, hF6, hB6⟩
  have hs6 : Since w4 w6 := Since.step hs5 hB6.out
  have HF6 := Lib.hid (hF6.out.mono (S' := fun k => W.heap.size + 2 ≤ k ∧ k < w6.heap.size) fun k hk => ⟨by have h1 := HZ4.out; have h2 := hs5.size; rcases hk.1 with h | h; exact h.elim; omega, hk.2⟩)
  have HF56 := Lib.hid (HF5.out.since hB6.out fun b hb => hb.2)
  have hz56 := hB6.out.size
  clear hF6 hB6
  try go_wp2_with fail
  refine hK.out _ _ ?_ (fun hHeld => ?_)
  ·exact hs6.cell x3
  clear hK K
  try simp only [Act.put, List.setIfInBounds_toArray, List.set_cons_zero, List.set_cons_succ]
  have hsW : Since W w6 := Since.step HS4.out hs6
  have KJ := Lib.hid (joined_any 5 ks neverF alwaysF (fun k => (S0 k ∨ W.heap.size + 2 ≤ k) ∧ k < w6.heap.size) (.slice ra3 rn3 rc3) ⟨iop, inn, ia2, in2, ic2, ia3, in3, ic3⟩ ⟨jop, jnn, ja2, jn2, jc2, ja3, jn3, jc3⟩ w6 (fun k hk => hk.2) (FS.parts' (FSr.mono (S' := fun k => (S0 k ∨ W.heap.size + 2 ≤ k) ∧ k < w6.heap.size) (fun k hk => ⟨(HS1.out k hk).1, Nat.lt_of_lt_of_le (HS1.out k hk).2 hs6.size⟩) (HF4.out.since hs6 fun b hb => (HS1.out b hb).2)).2.2) (HF56.out.mono fun k hk => ⟨.inr hk.1, Nat.lt_of_lt_of_le hk.2 hz56⟩) (HF6.out.mono fun k hk => ⟨.inr hk.1, hk.2⟩) HKS.out (fun k hk => (HKOK.out k hk).1) ok_neverF ok_alwaysF)
  simp only [Fr.v] at KJ
  clear hz56 HF5 HF6 HF56
  refine wpAnyH_ready (rs := [4]) (by kernel_rfl) (by simp) ?_
  refine AllReadyH.cons (o := ⟨some 55, Op.call { callee := Callee.value (Operand.func 126), args := #[Operand.const (Value.int IntKind.i64 5), Operand.tmp 52, Operand.tmp 53, Operand.tmp 54], argTypes := #[3, 23, 29, 29] }, 29, _, _, none⟩) rfl (fun K hK => ?_) AllReadyH.nil
  go_simp
  go_at_call 126
  (with_reducible refine KJ.out.mono ?_)
  rintro e w8 ⟨⟨fop, fn, fa2, fn2, fc2, fa3, fn3, fc3⟩, rfl, hF8, hB8⟩
  have hs8 : Since w4 w8 := Since.step hs6 hB8.out
  try go_wp2_with fail
  refine hK.out _ _ ?_ (fun hHeld => ?_)
  ·exact hs8.cell x3
  clear hK K
  try simp only [Act.put, List.setIfInBounds_toArray, List.set_cons_zero, List.set_cons_succ]
  obtain ⟨z0, z1, z2, z3, zf0, zf1, zf2, zf3, -⟩ := (HR4.out.keep hs8).all4
  refine wpAnyH_ready (rs := [5]) (by kernel_rfl) (by simp) ?_
  refine AllReadyH.cons (o := ⟨none, Op.store 29 (Operand.tmp 2) (Operand.tmp 55), 0, _, _, none⟩) rfl (fun K hK => ?_) AllReadyH.nil
  go_simp
  go_wp2_with fail
  refine hK.out _ _ ?_ (fun hHeld => ?_)
  ·exact cell_set hNE (cell_set hNE (cell_set hNE (cell_set hNE (hs8.cell x3))))
  clear hK K
  try simp only [Act.put, List.setIfInBounds_toArray, List.set_cons_zero, List.set_cons_succ]
  refine wpAnyH_done (by kernel_rfl) ?_ _
  refine NoPanic.normal ?_
  have hfin := FoOut.to (ret_to (S0 := S0) (Since.step hsW hB8.out) HS0.out hF8.out (fun k hk => ⟨by rcases hk.1 with h | h; exact h.1; exact .inr (by have := HZ4.out; have := hs6.size; omega), hk.2⟩)) (show sf = joinP 5 ks neverF alwaysF by rw [HSE.out]; simp [nodeS])
  unfold put4 at hfin
  have HFI := Lib.hid hfin
  clear hfin hF8 hB8
  go_wp2
  exact bodyPost_ret (v := .agg #[.int .i64 fop, .int .i64 fn, .slice fa2 fn2 fc2, .slice fa3 fn3 fc3]) (by simp [results, Tryz.results67, go_sem, z0, z1, z2, z3]) rfl HFI.out
 ·have hl3 : rn3 = 1 := HL36.out (by decide)
  obtain ⟨g3, u, ua, um, ud, va, vm, vd, rfl, hSg, hg3, hcap, hu, u0, u1, u2, u3, hFu⟩ := HKD.out 0 (by omega)
  simp only [Nat.zero_mul, Nat.zero_add] at u0 u1 u2 u3
  have hk0 : kid0 ks = u := kid0_get hu
  have i1 : (0 : Int) < (rn3 : Int) := by omega
  clear hl3
  have HK0 := Lib.hid hk0
  have HU := Lib.hid (HKOK.out u (List.mem_of_getElem? hu))
  have hFr : FSr S1 w4 u ⟨u.op, u.n, ua, um, ud, va, vm, vd⟩ := ⟨rfl, rfl, hFu⟩
  have HFr := Lib.hid hFr
  have hlv := hFr.lens
  simp only at hlv
  have KO := Lib.hid (opp_any u HU.out.2 S1 ⟨u.op, u.n, ua, um, ud, va, vm, vd⟩ w4 (fun k hk => (HS1.out k hk).2) hFr)
  simp only at KO
  clear hFr hFu hu hk0 hlv hcap hSg hg3 HG z0 z1 z2 z3 zf0 zf1 zf2 zf3
  go_wp2_with fail
  (with_reducible refine KO.out.mono ?_)
  rintro e w8 ⟨⟨fop, fn, fa2, fn2, fc2, fa3, fn3, fc3⟩, rfl, hF8, hB8⟩
  obtain ⟨z0, z1, z2, z3, zf0, zf1, zf2, zf3, -⟩ := (HR4.out.keep hB8.out).all4
  have hfin := FoOut.to (ret_to (S0 := S0) (Since.step HS4.out hB8.out) HS0.out hF8.out (by intro k hk; have h2 := HZ4.out; exact ⟨by rcases hk.1 with h | h; exact (HS1.out k h).1; exact .inr (by omega), hk.2⟩)) (show sf = oppF u from by rw [HSE.out]; unfold nodeS; rw [if_neg (by simp), if_neg (by simp), if_pos rfl, HK0.out])
  unfold put4 at hfin
  have HFI := Lib.hid hfin
  clear hfin hF8 hB8
  go_wp2
  exact bodyPost_ret (v := .agg #[.int .i64 fop, .int .i64 fn, .slice fa2 fn2 fc2, .slice fa3 fn3 fc3]) (by simp [results, Tryz.results67, go_sem, z0, z1, z2, z3]) rfl HFI.out
theorem sim_all : ∀ m : Nat, m ≤ 1000000 → SimK m
 | 0, _ => fun f hf => by have := f.size_pos; omega
 | m + 1, h => sim_step m h (Lib.hid (sim_all m (by omega)))
end Go.Proofs.YtgnloodmbgdgdaaGreat
namespace Go.Proofs.YtgnloodmbgdgdaaGreat
open Go.RowKit Go.Shelf
noncomputable def simpR (f : Fo) : Fo × Int := if validF f = 0 then (simpleF f, 0) else (.mk 0 0 [] [], validF f)
set_option maxHeartbeats 8000000 in
set_option maxRecDepth 100000 in
theorem gSimple_any (f : Fo) (hf : f.size ≤ 100000) (hw : f.wf) (S0 : Nat → Prop) (c d : Value) (W : World) (hS0 : ∀ k, S0 k → k < W.heap.size) (hT : FS S0 W f c d) :
  Calls Tryz.prog 27 #[.agg #[.int .i64 f.op, .int .i64 f.n, c, d]] W (FoE S0 (simpR f) W) := by
 obtain ⟨a2, c2, a3, c3, rfl, rfl⟩ : ∃ a2 c2 a3 c3, c = .slice a2 f.is.length c2 ∧ d = .slice a3 f.ks.length c3 := by
  obtain ⟨r, e1, e2, e3, e4, -⟩ := hT.shape
  exact ⟨_, _, _, _, by rw [e1, e3], by rw [e2, e4]⟩
 obtain ⟨W1, hW1⟩ : ∃ W1, W1 = W.alloc (.cells #[.int .i64 f.op, .int .i64 f.n, .slice a2 f.is.length c2, .slice a3 f.ks.length c3] 29) := ⟨_, rfl⟩
 have hS1 : Since W W1 := by rw [hW1]; exact Since.alloc (since_r _) _
 have hX1 : BoxL W.heap.size [.int .i64 f.op, .int .i64 f.n, .slice a2 f.is.length c2, .slice a3 f.ks.length c3] W1 := by rw [hW1]; exact BoxL.made W _ _
 have hz1 : W1.heap.size = W.heap.size + 1 := by rw [hW1, World.size_alloc]
 obtain ⟨W2, hW2⟩ : ∃ W2, W2 = W1.alloc (.cells #[.int .i64 0, .int .i64 0, .slice none 0 0, .slice none 0 0] 29) := ⟨_, rfl⟩
 have hS2 : Since W1 W2 := by rw [hW2]; exact Since.alloc (since_r _) _
 have hR2 : BoxL (W.heap.size + 1) [.int .i64 0, .int .i64 0, .slice none 0 0, .slice none 0 0] W2 := by rw [hW2, ← hz1]; exact BoxL.made W1 _ _
 have hz2 : W2.heap.size = W.heap.size + 2 := by rw [hW2, World.size_alloc, hz1]
 have hS : Since W W2 := Since.step hS1 hS2
 have hT2 : ∀ V, Since W V → FS S0 V f (.slice a2 f.is.length c2) (.slice a3 f.ks.length c3) := fun V hV => FS.mono (fun k h => h.1) _ (FS.keep (S' := S0) ⟨hV.size, fun b hb _ => hV.block b (hS0 b hb)⟩ (fun b _ hb => hb) f hT)
 have KV := Lib.hid (gvalidF_any f (by omega) hw (.slice a2 f.is.length c2) (.slice a3 f.ks.length c3) W2 (FS.fat (fun k hk => Nat.lt_of_lt_of_le (hS0 k hk) hS.size) _ (hT2 W2 hS)))
 have KP := Lib.hid fun (V : World) (hV : Since W V) (hg : f.good = true) => sim_all f.size (by omega) f (Nat.le_refl _) hg hw S0 (.slice a2 f.is.length c2) (.slice a3 f.ks.length c3) V (fun k hk => Nat.lt_of_lt_of_le (hS0 k hk) hV.size) (hT2 V hV)
 have hpr : simpR f = if validF f = 0 then (simpleF f, 0) else (.mk 0 0 [] [], validF f) := rfl
 have hvg : validF f = 0 → f.good = true := fun h => (validF_facts h).1
 obtain ⟨o0, o1, o2, o3, -⟩ := (hX1.keep hS2).open4
 have HX2 := Lib.hid (hX1.keep hS2)
 have HR2 := Lib.hid hR2
 have HS := Lib.hid hS
 have HZ2 : Hid (W.heap.size + 2 ≤ W2.heap.size) := Lib.hid (by omega)
 have HS0 := Lib.hid hS0
 generalize simpR f = pr at *
 generalize validF f = v at *
 have HPR := Lib.hid hpr
 have HVG := Lib.hid hvg
 clear hT2 hR2 hS hS0 hT hX1 hS1 hS2 hz2 hz1 hf hw hpr hvg
 go_enter Tryz.func27, Tryz.ntmps27
 go_upto_region 1 with (fail)
 rw [← hW1, ← hW2]
 clear hW1 hW2
 go_wp2_with fail
 (with_reducible refine KV.out.mono ?_)
 rintro e w3 ⟨rfl, hB3⟩
 have hS3 : Since W2 w3 := hB3
 have HS3 := Lib.hid (Since.step HS.out hS3)
 have HZ3 : Hid (W.heap.size + 2 ≤ w3.heap.size) := Lib.hid (Nat.le_trans HZ2.out hS3.size)
 have HR3 := Lib.hid (HR2.out.keep hS3)
 obtain ⟨p0, p1, p2, p3, -⟩ := (HX2.out.keep hS3).open4
 clear hB3 hS3 o0 o1 o2 o3 KV
 by_cases hv : v = 0
 ·have hvb : (v != 0) = false := by simpa using hv
  have hg := HVG.out hv
  have hpr2 : pr = (simpleF f, 0) := by rw [HPR.out, if_pos hv]
  have HPR2 := Lib.hid hpr2
  have KP3 := Lib.hid (KP.out w3 HS3.out hg)
  clear hv hg hpr2 HPR HVG KP
  generalize simpleF f = pf at *
  go_wp2_with fail
  (with_reducible refine KP3.out.mono ?_)
  rintro e w4 ⟨⟨fop, fn, fa2, fn2, fc2, fa3, fn3, fc3⟩, rfl, hF4, hB4⟩
  obtain ⟨z0, z1, z2, z3, zf0, zf1, zf2, zf3, -⟩ := (HR3.out.keep hB4.out).all4
  have hfin := FoE.of (er := 0) (ret_end (S0 := S0) HS3.out HZ3.out HS0.out hF4.out hB4.out)
  rw [← HPR2.out] at hfin
  unfold put4 at hfin
  have HFI := Lib.hid hfin
  clear hfin hF4 hB4
  go_wp2
  exact bodyPost_ret (v := .tuple #[.agg #[.int .i64 fop, .int .i64 fn, .slice fa2 fn2 fc2, .slice fa3 fn3 fc3], .int .i64 0]) (by simp [results, Tryz.results27, go_sem, z0, z1, z2, z3]) rfl HFI.out
 ·have hvb : (v != 0) = true := by simpa using hv
  have hpr2 : pr = (.mk 0 0 [] [], v) := by rw [HPR.out, if_neg hv]
  obtain ⟨z0, z1, z2, z3, zf0, zf1, zf2, zf3, -⟩ := HR3.out.all4
  have hfin := FoE.of (er := v) (ret_end HS3.out HZ3.out HS0.out (fsr_z _ w3) (since_r _))
  rw [← hpr2] at hfin
  unfold put4 at hfin
  have HFI := Lib.hid hfin
  clear hfin hpr2 hv
  go_wp2
  exact bodyPost_ret (v := .tuple #[.agg #[.int .i64 0, .int .i64 0, .slice none 0 0, .slice none 0 0], .int .i64 v]) (by simp [results, Tryz.results27, go_sem, z0, z1, z2, z3]) rfl HFI.out
end Go.Proofs.YtgnloodmbgdgdaaGreat
