import Derived.Test.YtgnloodmbgdgdaaGreatFB24
namespace Go.Proofs.YtgnloodmbgdgdaaGreat
open Go.RowKit Go.Shelf
theorem valV_wf : ∀ (vs : List Va) (a : Int), (∀ v ∈ vs, v.wf) → I64 (valV vs a).1 ∧ I64 (valV vs a).2.1
 | [], a, _ => by unfold valV; exact ⟨⟨by decide, by decide⟩, ⟨by decide, by decide⟩⟩
 | v :: vs, a, h => by
  unfold valV
  have hv := h v (List.mem_cons_self ..)
  split
  ·exact ⟨hv.2.1, hv.2.2⟩
  ·exact valV_wf vs a fun u hu => h u (List.mem_cons_of_mem _ hu)
theorem proper_kid {op n : Int} {ni nk : Nat} {v : Int} (h : properB op n ni nk v = true) : (op = 0 ∨ op = 1 ∨ op = 2 ∨ op = 3 ∨ op = 4 ∨ op = 5 ∨ op = 6) ∧ (op = 3 ∨ op = 6 → nk = 1) := by
 unfold properB at h
 split at h
 ·exact ⟨.inl ‹_›, fun h2 => by omega⟩
 ·split at h
  ·exact ⟨.inr (.inl ‹_›), fun h2 => by omega⟩
  ·split at h
   ·exact ⟨.inr (.inr (.inl ‹_›)), fun h2 => by omega⟩
   ·split at h
    ·exact ⟨by omega, fun _ => (of_decide_eq_true h).2.2⟩
    ·split at h
     ·exact ⟨by omega, fun h2 => by omega⟩
     ·cases h
theorem goods_mem : ∀ {ks : List Fo}, Fo.goods ks = true → ∀ u ∈ ks, u.good = true
 | [], _, u, hu => by simp at hu
 | k :: ks, h, u, hu => by
  rw [Fo.goods, Bool.and_eq_true] at h
  rcases List.mem_cons.1 hu with rfl | hu
  ·exact h.1
  ·exact goods_mem h.2 u hu
set_option maxHeartbeats 4000000 in
set_option maxRecDepth 100000 in
theorem hold_0 {N : Nat} {P : List (List Int)} {m : Nat} (hm : m ≤ 1000000) (K : Hid (HoldK N P m)) (n : Int) (is : List Iv) (ks : List Fo) (hfs : (Fo.mk 0 n is ks).size ≤ m + 1) (hpr : properB 0 n is.length ks.length (validL is) = true) (hgk : ∀ u ∈ ks, u.good = true) (hfw : (Fo.mk 0 n is ks).wf) (t : Th) (ht : t.size ≤ 1000000) (hw : t.wf) (c d a b e : Value) (w : World) (hTx : TxAt N P w) (hF : FAt w.heap.size w (.mk 0 n is ks) c d) (hT : TAt w.heap.size w t a b e) :
  Calls Tryz.prog 61 #[.pointer (some ⟨N, 0, none⟩), .agg #[.int .i64 0, .int .i64 n, c, d], .agg #[a, b, e]] w fun e w' => e = .returned (.bool (Fo.hold P (.mk 0 n is ks) t)) ∧ Below w.heap.size w w' := by
 have hall := And.intro hm (And.intro K (And.intro hgk ht))
 clear hall
 have hwf := (Th.wf_eq t).1 hw
 have hff := (Fo.wf_eq _).1 hfw
 simp only [Fo.is, Fo.ks] at hff
 have htz := t.size_eq
 have htl := Th.sizes_len t.ps
 rw [Fo.size] at hfs
 have hkl := Fo.sizes_len ks
 have hkm : ∀ u ∈ ks, u.size ≤ m := fun u hu => by have := Fo.sizes_mem hu; omega
 have hpk := (proper_kid hpr).2
 obtain ⟨W1, hW1⟩ : ∃ W1, W1 = w.alloc (.cells #[.pointer (some ⟨N, 0, none⟩)] 33) := ⟨_, rfl⟩
 have hS1 : Since w W1 := by rw [hW1]; exact Since.alloc (since_r _) _
 have hz1 : W1.heap.size = w.heap.size + 1 := by rw [hW1, World.size_alloc]
 have hX1 : BoxL w.heap.size [.pointer (some ⟨N, 0, none⟩)] W1 := by rw [hW1]; exact BoxL.made w _ _
 obtain ⟨W2, hW2⟩ : ∃ W2, W2 = W1.alloc (.cells #[.int .i64 0, .int .i64 n, c, d] 29) := ⟨_, rfl⟩
 have hS2 : Since W1 W2 := by rw [hW2]; exact Since.alloc (since_r _) _
 have hz2 : W2.heap.size = w.heap.size + 1 + 1 := by rw [hW2, World.size_alloc, hz1]
 have hX2 := hX1.keep hS2
 have hY2 : BoxL (w.heap.size + 1) [.int .i64 0, .int .i64 n, c, d] W2 := by rw [hW2, ← hz1]; exact BoxL.made W1 _ _
 obtain ⟨W3, hW3⟩ : ∃ W3, W3 = W2.alloc (.cells #[a, b, e] 41) := ⟨_, rfl⟩
 have hS3 : Since W2 W3 := by rw [hW3]; exact Since.alloc (since_r _) _
 have hX := hX2.keep hS3
 have hY := hY2.keep hS3
 have hZ : BoxL (w.heap.size + 1 + 1) [a, b, e] W3 := by rw [hW3, ← hz2]; exact BoxL.made W2 _ _
 have hS := Since.step (Since.step hS1 hS2) hS3
 have hTx3 := TxAt.below hTx hS
 have hF3 := FAt.below hS hF
 have hT3 := TAt.below hS hT
 obtain ⟨a1, c1, a2, c2, a3, c3, rfl, rfl, rfl, hE, -, hP, -⟩ := hT3.shape
 obtain ⟨a4, c4, a5, c5, rfl, rfl, hI, hKs, -⟩ := hF3.shape
 simp only [Fo.is, Fo.ks] at *
 obtain ⟨x0, -⟩ := hX.open1
 obtain ⟨y0, y1, y2, y3, -⟩ := hY.open4
 obtain ⟨z0, z1, z2, -⟩ := hZ.open3
 have hval : Fo.hold P (.mk 0 n is ks) t = true := by rw [Fo.hold]; simp
 rw [hval]
 have HS := Lib.hid hS
 generalize t.cs.length = l1 at *
 generalize t.vs.length = l2 at *
 generalize t.ps.length = l3 at *
 generalize is.length = l4 at *
 generalize ks.length = l5 at *
 clear hval hwf hff htz htl hfs hkl hkm hpk hS1 hS2 hS3 hz1 hz2 hX1 hX2 hY2 hX hY hZ hTx3 hF3 hT3 hE hP hI hKs hTx hF hT hfw ht hw hgk hpr K hm hS
 go_enter Tryz.func61, Tryz.ntmps61
 go_upto_region 1 with (fail)
 rw [← hW1, ← hW2, ← hW3]
 clear hW1 hW2 hW3
 have HB := Lib.hid HS.out
 go_wp2
 go_ret
 exact ⟨rfl, HB.out⟩
set_option maxHeartbeats 4000000 in
set_option maxRecDepth 100000 in
theorem hold_1 {N : Nat} {P : List (List Int)} {m : Nat} (hm : m ≤ 1000000) (K : Hid (HoldK N P m)) (n : Int) (is : List Iv) (ks : List Fo) (hfs : (Fo.mk 1 n is ks).size ≤ m + 1) (hpr : properB 1 n is.length ks.length (validL is) = true) (hgk : ∀ u ∈ ks, u.good = true) (hfw : (Fo.mk 1 n is ks).wf) (t : Th) (ht : t.size ≤ 1000000) (hw : t.wf) (c d a b e : Value) (w : World) (hTx : TxAt N P w) (hF : FAt w.heap.size w (.mk 1 n is ks) c d) (hT : TAt w.heap.size w t a b e) :
  Calls Tryz.prog 61 #[.pointer (some ⟨N, 0, none⟩), .agg #[.int .i64 1, .int .i64 n, c, d], .agg #[a, b, e]] w fun e w' => e = .returned (.bool (Fo.hold P (.mk 1 n is ks) t)) ∧ Below w.heap.size w w' := by
 have hall := And.intro hm (And.intro K (And.intro hgk ht))
 clear hall
 have hwf := (Th.wf_eq t).1 hw
 have hff := (Fo.wf_eq _).1 hfw
 simp only [Fo.is, Fo.ks] at hff
 have htz := t.size_eq
 have htl := Th.sizes_len t.ps
 rw [Fo.size] at hfs
 have hkl := Fo.sizes_len ks
 have hkm : ∀ u ∈ ks, u.size ≤ m := fun u hu => by have := Fo.sizes_mem hu; omega
 have hpk := (proper_kid hpr).2
 obtain ⟨W1, hW1⟩ : ∃ W1, W1 = w.alloc (.cells #[.pointer (some ⟨N, 0, none⟩)] 33) := ⟨_, rfl⟩
 have hS1 : Since w W1 := by rw [hW1]; exact Since.alloc (since_r _) _
 have hz1 : W1.heap.size = w.heap.size + 1 := by rw [hW1, World.size_alloc]
 have hX1 : BoxL w.heap.size [.pointer (some ⟨N, 0, none⟩)] W1 := by rw [hW1]; exact BoxL.made w _ _
 obtain ⟨W2, hW2⟩ : ∃ W2, W2 = W1.alloc (.cells #[.int .i64 1, .int .i64 n, c, d] 29) := ⟨_, rfl⟩
 have hS2 : Since W1 W2 := by rw [hW2]; exact Since.alloc (since_r _) _
 have hz2 : W2.heap.size = w.heap.size + 1 + 1 := by rw [hW2, World.size_alloc, hz1]
 have hX2 := hX1.keep hS2
 have hY2 : BoxL (w.heap.size + 1) [.int .i64 1, .int .i64 n, c, d] W2 := by rw [hW2, ← hz1]; exact BoxL.made W1 _ _
 obtain ⟨W3, hW3⟩ : ∃ W3, W3 = W2.alloc (.cells #[a, b, e] 41) := ⟨_, rfl⟩
 have hS3 : Since W2 W3 := by rw [hW3]; exact Since.alloc (since_r _) _
 have hX := hX2.keep hS3
 have hY := hY2.keep hS3
 have hZ : BoxL (w.heap.size + 1 + 1) [a, b, e] W3 := by rw [hW3, ← hz2]; exact BoxL.made W2 _ _
 have hS := Since.step (Since.step hS1 hS2) hS3
 have hTx3 := TxAt.below hTx hS
 have hF3 := FAt.below hS hF
 have hT3 := TAt.below hS hT
 obtain ⟨a1, c1, a2, c2, a3, c3, rfl, rfl, rfl, hE, -, hP, -⟩ := hT3.shape
 obtain ⟨a4, c4, a5, c5, rfl, rfl, hI, hKs, -⟩ := hF3.shape
 simp only [Fo.is, Fo.ks] at *
 obtain ⟨x0, -⟩ := hX.open1
 obtain ⟨y0, y1, y2, y3, -⟩ := hY.open4
 obtain ⟨z0, z1, z2, -⟩ := hZ.open3
 have hval : Fo.hold P (.mk 1 n is ks) t = (t.cs.any fun c => isB P c n) := by rw [Fo.hold]; simp
 rw [hval]
 have HS := Lib.hid hS
 have KC := Lib.hid (ho1_has w.heap.size (w.heap.size + 1) (fun c => isB P c n) _ t.cs W3 hE hwf.1.1.2 (Lib.hid fun q _ W' hs => ho1_any N w.heap.size (w.heap.size + 1) P q 1 n _ _ W' (hX.keep hs) (hY.keep hs) (TxAt.below hTx3 hs)))
 generalize (t.cs.any fun c => isB P c n) = v at *
 generalize t.cs.length = l1 at *
 generalize t.vs.length = l2 at *
 generalize t.ps.length = l3 at *
 generalize is.length = l4 at *
 generalize ks.length = l5 at *
 clear hval hwf hff htz htl hfs hkl hkm hpk hS1 hS2 hS3 hz1 hz2 hX1 hX2 hY2 hX hY hZ hTx3 hF3 hT3 hE hP hI hKs hTx hF hT hfw ht hw hgk hpr K hm hS
 go_enter Tryz.func61, Tryz.ntmps61
 go_upto_region 1 with (fail)
 rw [← hW1, ← hW2, ← hW3]
 clear hW1 hW2 hW3
 go_wp2_with fail
 refine KC.out.mono ?_
 rintro e w4 ⟨rfl, hr⟩
 have HB := Lib.hid (Since.step HS.out hr)
 clear hr x0 y0 y1 y2 y3 z0 z1 z2
 go_wp2
 go_ret
 exact ⟨rfl, HB.out⟩
set_option maxHeartbeats 4000000 in
set_option maxRecDepth 100000 in
theorem hold_2 {N : Nat} {P : List (List Int)} {m : Nat} (hm : m ≤ 1000000) (K : Hid (HoldK N P m)) (n : Int) (is : List Iv) (ks : List Fo) (hfs : (Fo.mk 2 n is ks).size ≤ m + 1) (hpr : properB 2 n is.length ks.length (validL is) = true) (hgk : ∀ u ∈ ks, u.good = true) (hfw : (Fo.mk 2 n is ks).wf) (t : Th) (ht : t.size ≤ 1000000) (hw : t.wf) (c d a b e : Value) (w : World) (hTx : TxAt N P w) (hF : FAt w.heap.size w (.mk 2 n is ks) c d) (hT : TAt w.heap.size w t a b e) :
  Calls Tryz.prog 61 #[.pointer (some ⟨N, 0, none⟩), .agg #[.int .i64 2, .int .i64 n, c, d], .agg #[a, b, e]] w fun e w' => e = .returned (.bool (Fo.hold P (.mk 2 n is ks) t)) ∧ Below w.heap.size w w' := by
 have hall := And.intro hm (And.intro K (And.intro hgk ht))
 clear hall
 have hwf := (Th.wf_eq t).1 hw
 have hff := (Fo.wf_eq _).1 hfw
 simp only [Fo.is, Fo.ks] at hff
 have htz := t.size_eq
 have htl := Th.sizes_len t.ps
 rw [Fo.size] at hfs
 have hkl := Fo.sizes_len ks
 have hkm : ∀ u ∈ ks, u.size ≤ m := fun u hu => by have := Fo.sizes_mem hu; omega
 have hpk := (proper_kid hpr).2
 obtain ⟨W1, hW1⟩ : ∃ W1, W1 = w.alloc (.cells #[.pointer (some ⟨N, 0, none⟩)] 33) := ⟨_, rfl⟩
 have hS1 : Since w W1 := by rw [hW1]; exact Since.alloc (since_r _) _
 have hz1 : W1.heap.size = w.heap.size + 1 := by rw [hW1, World.size_alloc]
 have hX1 : BoxL w.heap.size [.pointer (some ⟨N, 0, none⟩)] W1 := by rw [hW1]; exact BoxL.made w _ _
 obtain ⟨W2, hW2⟩ : ∃ W2, W2 = W1.alloc (.cells #[.int .i64 2, .int .i64 n, c, d] 29) := ⟨_, rfl⟩
 have hS2 : Since W1 W2 := by rw [hW2]; exact Since.alloc (since_r _) _
 have hz2 : W2.heap.size = w.heap.size + 1 + 1 := by rw [hW2, World.size_alloc, hz1]
 have hX2 := hX1.keep hS2
 have hY2 : BoxL (w.heap.size + 1) [.int .i64 2, .int .i64 n, c, d] W2 := by rw [hW2, ← hz1]; exact BoxL.made W1 _ _
 obtain ⟨W3, hW3⟩ : ∃ W3, W3 = W2.alloc (.cells #[a, b, e] 41) := ⟨_, rfl⟩
 have hS3 : Since W2 W3 := by rw [hW3]; exact Since.alloc (since_r _) _
 have hX := hX2.keep hS3
 have hY := hY2.keep hS3
 have hZ : BoxL (w.heap.size + 1 + 1) [a, b, e] W3 := by rw [hW3, ← hz2]; exact BoxL.made W2 _ _
 have hS := Since.step (Since.step hS1 hS2) hS3
 have hTx3 := TxAt.below hTx hS
 have hF3 := FAt.below hS hF
 have hT3 := TAt.below hS hT
 obtain ⟨a1, c1, a2, c2, a3, c3, rfl, rfl, rfl, hE, -, hP, -⟩ := hT3.shape
 obtain ⟨a4, c4, a5, c5, rfl, rfl, hI, hKs, -⟩ := hF3.shape
 simp only [Fo.is, Fo.ks] at *
 obtain ⟨x0, -⟩ := hX.open1
 obtain ⟨y0, y1, y2, y3, -⟩ := hY.open4
 obtain ⟨z0, z1, z2, -⟩ := hZ.open3
 have hval : Fo.hold P (.mk 2 n is ks) t = ((valV t.vs n).2.2 && hasL is (valV t.vs n).1 (valV t.vs n).2.1) := by rw [Fo.hold]; simp
 rw [hval]
 have HS := Lib.hid hS
 have KV := Lib.hid (tvalue_any t n _ _ _ W3 hT3 hwf.1.2.2)
 have hvw := valV_wf t.vs n hwf.1.2.1
 have KH := Lib.hid fun W' (hs : Since W3 W') => shas_any _ is (valV t.vs n).1 (valV t.vs n).2.1 W' (REls.below hs hI) hff.1.1 hff.1.2 hvw.1 hvw.2
 have HY := Lib.hid hY
 generalize valV t.vs n = r at *
 obtain ⟨r1, r2, r3⟩ := r
 simp only at KH
 generalize hasL is r1 r2 = v at *
 clear hvw
 generalize t.cs.length = l1 at *
 generalize t.vs.length = l2 at *
 generalize t.ps.length = l3 at *
 generalize is.length = l4 at *
 generalize ks.length = l5 at *
 clear hval hwf hff htz htl hfs hkl hkm hpk hS1 hS2 hS3 hz1 hz2 hX1 hX2 hY2 hX hY hZ hTx3 hF3 hT3 hE hP hI hKs hTx hF hT hfw ht hw hgk hpr K hm hS
 go_enter Tryz.func61, Tryz.ntmps61
 go_upto_region 1 with (fail)
 rw [← hW1, ← hW2, ← hW3]
 clear hW1 hW2 hW3
 go_wp2_with fail
 refine KV.out.mono ?_
 rintro e w4 ⟨rfl, hr⟩
 simp only
 have hsz := hr.size
 have hX5 := BoxL.made w4 #[.int .i64 r1, .int .i64 r2] 91
 obtain ⟨W5, hW5⟩ : ∃ W5, W5 = w4.alloc (.cells #[.int .i64 r1, .int .i64 r2] 91) := ⟨_, rfl⟩
 have hS5 : Since W3 W5 := by rw [hW5]; exact Since.alloc hr _
 rw [← hW5] at hX5
 obtain ⟨q0, q1, -⟩ := hX5.open2
 obtain ⟨y0, y1, y2, y3, -⟩ := (HY.out.keep hS5).open4
 have KQ := Lib.hid (KH.out W5 hS5)
 have HB := Lib.hid (Since.step HS.out hS5)
 clear hr hsz hX5 hS5 x0 z0 z1 z2 KH
 go_upto_region 8 with (fail)
 rw [← hW5]
 clear hW5
 generalize w4.heap.size = N5 at *
 cases r3 with
 | false =>
  go_wp2
  go_ret
  exact ⟨rfl, HB.out⟩
 | true =>
  go_wp2_with fail
  refine KQ.out.mono ?_
  rintro e w6 ⟨rfl, hr⟩
  have HB6 := Lib.hid (Since.step HB.out hr)
  clear hr
  go_wp2
  go_ret
  exact ⟨rfl, HB6.out⟩
set_option maxHeartbeats 4000000 in
set_option maxRecDepth 100000 in
theorem hold_3 {N : Nat} {P : List (List Int)} {m : Nat} (hm : m ≤ 1000000) (K : Hid (HoldK N P m)) (n : Int) (is : List Iv) (ks : List Fo) (hfs : (Fo.mk 3 n is ks).size ≤ m + 1) (hpr : properB 3 n is.length ks.length (validL is) = true) (hgk : ∀ u ∈ ks, u.good = true) (hfw : (Fo.mk 3 n is ks).wf) (t : Th) (ht : t.size ≤ 1000000) (hw : t.wf) (c d a b e : Value) (w : World) (hTx : TxAt N P w) (hF : FAt w.heap.size w (.mk 3 n is ks) c d) (hT : TAt w.heap.size w t a b e) :
  Calls Tryz.prog 61 #[.pointer (some ⟨N, 0, none⟩), .agg #[.int .i64 3, .int .i64 n, c, d], .agg #[a, b, e]] w fun e w' => e = .returned (.bool (Fo.hold P (.mk 3 n is ks) t)) ∧ Below w.heap.size w w' := by
 have hall := And.intro hm (And.intro K (And.intro hgk ht))
 clear hall
 have hwf := (Th.wf_eq t).1 hw
 have hff := (Fo.wf_eq _).1 hfw
 simp only [Fo.is, Fo.ks] at hff
 have htz := t.size_eq
 have htl := Th.sizes_len t.ps
 rw [Fo.size] at hfs
 have hkl := Fo.sizes_len ks
 have hkm : ∀ u ∈ ks, u.size ≤ m := fun u hu => by have := Fo.sizes_mem hu; omega
 have hpk := (proper_kid hpr).2
 obtain ⟨W1, hW1⟩ : ∃ W1, W1 = w.alloc (.cells #[.pointer (some ⟨N, 0, none⟩)] 33) := ⟨_, rfl⟩
 have hS1 : Since w W1 := by rw [hW1]; exact Since.alloc (since_r _) _
 have hz1 : W1.heap.size = w.heap.size + 1 := by rw [hW1, World.size_alloc]
 have hX1 : BoxL w.heap.size [.pointer (some ⟨N, 0, none⟩)] W1 := by rw [hW1]; exact BoxL.made w _ _
 obtain ⟨W2, hW2⟩ : ∃ W2, W2 = W1.alloc (.cells #[.int .i64 3, .int .i64 n, c, d] 29) := ⟨_, rfl⟩
 have hS2 : Since W1 W2 := by rw [hW2]; exact Since.alloc (since_r _) _
 have hz2 : W2.heap.size = w.heap.size + 1 + 1 := by rw [hW2, World.size_alloc, hz1]
 have hX2 := hX1.keep hS2
 have hY2 : BoxL (w.heap.size + 1) [.int .i64 3, .int .i64 n, c, d] W2 := by rw [hW2, ← hz1]; exact BoxL.made W1 _ _
 obtain ⟨W3, hW3⟩ : ∃ W3, W3 = W2.alloc (.cells #[a, b, e] 41) := ⟨_, rfl⟩
 have hS3 : Since W2 W3 := by rw [hW3]; exact Since.alloc (since_r _) _
 have hX := hX2.keep hS3
 have hY := hY2.keep hS3
 have hZ : BoxL (w.heap.size + 1 + 1) [a, b, e] W3 := by rw [hW3, ← hz2]; exact BoxL.made W2 _ _
 have hS := Since.step (Since.step hS1 hS2) hS3
 have hTx3 := TxAt.below hTx hS
 have hF3 := FAt.below hS hF
 have hT3 := TAt.below hS hT
 obtain ⟨a1, c1, a2, c2, a3, c3, rfl, rfl, rfl, hE, -, hP, -⟩ := hT3.shape
 obtain ⟨a4, c4, a5, c5, rfl, rfl, hI, hKs, -⟩ := hF3.shape
 simp only [Fo.is, Fo.ks] at *
 obtain ⟨x0, -⟩ := hX.open1
 obtain ⟨y0, y1, y2, y3, -⟩ := hY.open4
 obtain ⟨z0, z1, z2, -⟩ := hZ.open3
 have hval : Fo.hold P (.mk 3 n is ks) t = (t.ps.any fun p => Fo.hold1 P ks p) := by rw [Fo.hold]; simp
 rw [hval]
 have HS := Lib.hid hS
 have hk1 : ks.length = 1 := hpk (by decide)
 obtain ⟨k, rfl⟩ : ∃ k, ks = [k] := by
  match ks, hk1 with
  | [k], _ => exact ⟨k, rfl⟩
 obtain ⟨g, k', rfl, -, hgs, -, hq, vc, vd, k0, k1, k2, k3, hFk⟩ := hKs.get (j := 0) (by simp)
 cases hq
 have hkm1 := hkm k (by simp)
 have hgk1 := hgk k (by simp)
 have hkw1 := hff.2 k (by simp)
 have KC := Lib.hid (ho2_has w.heap.size (w.heap.size + 1) (fun p => k.hold P p) _ t.ps W3 hP (by omega) (Lib.hid fun q hq va vb ve W' hs hTq => ho2_any K w.heap.size (w.heap.size + 1) 3 n _ g c5 k hkm1 hgk1 hkw1 q (by have := Th.sizes_mem hq; omega) (hwf.2 q hq) _ _ va vb ve W' (hX.keep hs) (hY.keep hs) (Since.cell hs k0) (Since.cell hs k1) (Since.cell hs k2) (Since.cell hs k3) (TxAt.below hTx3 hs) (FAt.below hs hFk) hTq))
 have hone : (t.ps.any fun p => Fo.hold1 P [k] p) = t.ps.any fun p => k.hold P p := by simp only [Fo.hold1]
 rw [hone]
 generalize (t.ps.any fun p => k.hold P p) = v at *
 simp only [List.length_singleton] at *
 clear hone hk1 hkm1 hgk1 hkw1 hFk k0 k1 k2 k3 hgs
 generalize t.cs.length = l1 at *
 generalize t.vs.length = l2 at *
 generalize t.ps.length = l3 at *
 generalize is.length = l4 at *
 clear hval hwf hff htz htl hfs hkl hkm hpk hS1 hS2 hS3 hz1 hz2 hX1 hX2 hY2 hX hY hZ hTx3 hF3 hT3 hE hP hI hKs hTx hF hT hfw ht hw hgk hpr K hm hS
 go_enter Tryz.func61, Tryz.ntmps61
 go_upto_region 1 with (fail)
 rw [← hW1, ← hW2, ← hW3]
 clear hW1 hW2 hW3
 go_wp2_with fail
 refine KC.out.mono ?_
 rintro e w4 ⟨rfl, hr⟩
 have HB := Lib.hid (Since.step HS.out hr)
 clear hr x0 y0 y1 y2 y3 z0 z1 z2
 go_wp2
 go_ret
 exact ⟨rfl, HB.out⟩
set_option maxHeartbeats 4000000 in
set_option maxRecDepth 100000 in
theorem hold_4 {N : Nat} {P : List (List Int)} {m : Nat} (hm : m ≤ 1000000) (K : Hid (HoldK N P m)) (n : Int) (is : List Iv) (ks : List Fo) (hfs : (Fo.mk 4 n is ks).size ≤ m + 1) (hpr : properB 4 n is.length ks.length (validL is) = true) (hgk : ∀ u ∈ ks, u.good = true) (hfw : (Fo.mk 4 n is ks).wf) (t : Th) (ht : t.size ≤ 1000000) (hw : t.wf) (c d a b e : Value) (w : World) (hTx : TxAt N P w) (hF : FAt w.heap.size w (.mk 4 n is ks) c d) (hT : TAt w.heap.size w t a b e) :
  Calls Tryz.prog 61 #[.pointer (some ⟨N, 0, none⟩), .agg #[.int .i64 4, .int .i64 n, c, d], .agg #[a, b, e]] w fun e w' => e = .returned (.bool (Fo.hold P (.mk 4 n is ks) t)) ∧ Below w.heap.size w w' := by
 have hall := And.intro hm (And.intro K (And.intro hgk ht))
 clear hall
 have hwf := (Th.wf_eq t).1 hw
 have hff := (Fo.wf_eq _).1 hfw
 simp only [Fo.is, Fo.ks] at hff
 have htz := t.size_eq
 have htl := Th.sizes_len t.ps
 rw [Fo.size] at hfs
 have hkl := Fo.sizes_len ks
 have hkm : ∀ u ∈ ks, u.size ≤ m := fun u hu => by have := Fo.sizes_mem hu; omega
 have hpk := (proper_kid hpr).2
 obtain ⟨W1, hW1⟩ : ∃ W1, W1 = w.alloc (.cells #[.pointer (some ⟨N, 0, none⟩)] 33) := ⟨_, rfl⟩
 have hS1 : Since w W1 := by rw [hW1]; exact Since.alloc (since_r _) _
 have hz1 : W1.heap.size = w.heap.size + 1 := by rw [hW1, World.size_alloc]
 have hX1 : BoxL w.heap.size [.pointer (some ⟨N, 0, none⟩)] W1 := by rw [hW1]; exact BoxL.made w _ _
 obtain ⟨W2, hW2⟩ : ∃ W2, W2 = W1.alloc (.cells #[.int .i64 4, .int .i64 n, c, d] 29) := ⟨_, rfl⟩
 have hS2 : Since W1 W2 := by rw [hW2]; exact Since.alloc (since_r _) _
 have hz2 : W2.heap.size = w.heap.size + 1 + 1 := by rw [hW2, World.size_alloc, hz1]
 have hX2 := hX1.keep hS2
 have hY2 : BoxL (w.heap.size + 1) [.int .i64 4, .int .i64 n, c, d] W2 := by rw [hW2, ← hz1]; exact BoxL.made W1 _ _
 obtain ⟨W3, hW3⟩ : ∃ W3, W3 = W2.alloc (.cells #[a, b, e] 41) := ⟨_, rfl⟩
 have hS3 : Since W2 W3 := by rw [hW3]; exact Since.alloc (since_r _) _
 have hX := hX2.keep hS3
 have hY := hY2.keep hS3
 have hZ : BoxL (w.heap.size + 1 + 1) [a, b, e] W3 := by rw [hW3, ← hz2]; exact BoxL.made W2 _ _
 have hS := Since.step (Since.step hS1 hS2) hS3
 have hTx3 := TxAt.below hTx hS
 have hF3 := FAt.below hS hF
 have hT3 := TAt.below hS hT
 obtain ⟨a1, c1, a2, c2, a3, c3, rfl, rfl, rfl, hE, -, hP, -⟩ := hT3.shape
 obtain ⟨a4, c4, a5, c5, rfl, rfl, hI, hKs, -⟩ := hF3.shape
 simp only [Fo.is, Fo.ks] at *
 obtain ⟨x0, -⟩ := hX.open1
 obtain ⟨y0, y1, y2, y3, -⟩ := hY.open4
 obtain ⟨z0, z1, z2, -⟩ := hZ.open3
 have hval : Fo.hold P (.mk 4 n is ks) t = (!(ks.any fun k => !k.hold P t)) := by rw [Fo.hold]; rw [Fo.holdN_any]; simp
 rw [hval]
 have HS := Lib.hid hS
 have KC := Lib.hid (ho3_has w.heap.size (w.heap.size + 1 + 1) (fun k => !k.hold P t) _ ks W3 hKs (by omega) (Lib.hid fun q hq vc vd W' hs hFq => ho3_any K w.heap.size (w.heap.size + 1 + 1) q (hkm q hq) (hgk q hq) (hff.2 q hq) t ht hw vc vd _ _ _ W' (hX.keep hs) (hZ.keep hs) (TxAt.below hTx3 hs) hFq (TAt.below hs hT3)))
 generalize (ks.any fun k => !k.hold P t) = v at *
 generalize t.cs.length = l1 at *
 generalize t.vs.length = l2 at *
 generalize t.ps.length = l3 at *
 generalize is.length = l4 at *
 generalize ks.length = l5 at *
 clear hval hwf hff htz htl hfs hkl hkm hpk hS1 hS2 hS3 hz1 hz2 hX1 hX2 hY2 hX hY hZ hTx3 hF3 hT3 hE hP hI hKs hTx hF hT hfw ht hw hgk hpr K hm hS
 go_enter Tryz.func61, Tryz.ntmps61
 go_upto_region 1 with (fail)
 rw [← hW1, ← hW2, ← hW3]
 clear hW1 hW2 hW3
 go_wp2_with fail
 refine KC.out.mono ?_
 rintro e w4 ⟨rfl, hr⟩
 have HB := Lib.hid (Since.step HS.out hr)
 clear hr x0 y0 y1 y2 y3 z0 z1 z2
 go_wp2
 go_ret
 exact ⟨rfl, HB.out⟩
set_option maxHeartbeats 4000000 in
set_option maxRecDepth 100000 in
theorem hold_5 {N : Nat} {P : List (List Int)} {m : Nat} (hm : m ≤ 1000000) (K : Hid (HoldK N P m)) (n : Int) (is : List Iv) (ks : List Fo) (hfs : (Fo.mk 5 n is ks).size ≤ m + 1) (hpr : properB 5 n is.length ks.length (validL is) = true) (hgk : ∀ u ∈ ks, u.good = true) (hfw : (Fo.mk 5 n is ks).wf) (t : Th) (ht : t.size ≤ 1000000) (hw : t.wf) (c d a b e : Value) (w : World) (hTx : TxAt N P w) (hF : FAt w.heap.size w (.mk 5 n is ks) c d) (hT : TAt w.heap.size w t a b e) :
  Calls Tryz.prog 61 #[.pointer (some ⟨N, 0, none⟩), .agg #[.int .i64 5, .int .i64 n, c, d], .agg #[a, b, e]] w fun e w' => e = .returned (.bool (Fo.hold P (.mk 5 n is ks) t)) ∧ Below w.heap.size w w' := by
 have hall := And.intro hm (And.intro K (And.intro hgk ht))
 clear hall
 have hwf := (Th.wf_eq t).1 hw
 have hff := (Fo.wf_eq _).1 hfw
 simp only [Fo.is, Fo.ks] at hff
 have htz := t.size_eq
 have htl := Th.sizes_len t.ps
 rw [Fo.size] at hfs
 have hkl := Fo.sizes_len ks
 have hkm : ∀ u ∈ ks, u.size ≤ m := fun u hu => by have := Fo.sizes_mem hu; omega
 have hpk := (proper_kid hpr).2
 obtain ⟨W1, hW1⟩ : ∃ W1, W1 = w.alloc (.cells #[.pointer (some ⟨N, 0, none⟩)] 33) := ⟨_, rfl⟩
 have hS1 : Since w W1 := by rw [hW1]; exact Since.alloc (since_r _) _
 have hz1 : W1.heap.size = w.heap.size + 1 := by rw [hW1, World.size_alloc]
 have hX1 : BoxL w.heap.size [.pointer (some ⟨N, 0, none⟩)] W1 := by rw [hW1]; exact BoxL.made w _ _
 obtain ⟨W2, hW2⟩ : ∃ W2, W2 = W1.alloc (.cells #[.int .i64 5, .int .i64 n, c, d] 29) := ⟨_, rfl⟩
 have hS2 : Since W1 W2 := by rw [hW2]; exact Since.alloc (since_r _) _
 have hz2 : W2.heap.size = w.heap.size + 1 + 1 := by rw [hW2, World.size_alloc, hz1]
 have hX2 := hX1.keep hS2
 have hY2 : BoxL (w.heap.size + 1) [.int .i64 5, .int .i64 n, c, d] W2 := by rw [hW2, ← hz1]; exact BoxL.made W1 _ _
 obtain ⟨W3, hW3⟩ : ∃ W3, W3 = W2.alloc (.cells #[a, b, e] 41) := ⟨_, rfl⟩
 have hS3 : Since W2 W3 := by rw [hW3]; exact Since.alloc (since_r _) _
 have hX := hX2.keep hS3
 have hY := hY2.keep hS3
 have hZ : BoxL (w.heap.size + 1 + 1) [a, b, e] W3 := by rw [hW3, ← hz2]; exact BoxL.made W2 _ _
 have hS := Since.step (Since.step hS1 hS2) hS3
 have hTx3 := TxAt.below hTx hS
 have hF3 := FAt.below hS hF
 have hT3 := TAt.below hS hT
 obtain ⟨a1, c1, a2, c2, a3, c3, rfl, rfl, rfl, hE, -, hP, -⟩ := hT3.shape
 obtain ⟨a4, c4, a5, c5, rfl, rfl, hI, hKs, -⟩ := hF3.shape
 simp only [Fo.is, Fo.ks] at *
 obtain ⟨x0, -⟩ := hX.open1
 obtain ⟨y0, y1, y2, y3, -⟩ := hY.open4
 obtain ⟨z0, z1, z2, -⟩ := hZ.open3
 have hval : Fo.hold P (.mk 5 n is ks) t = (ks.any fun k => k.hold P t) := by rw [Fo.hold]; rw [Fo.holdE_any]; simp
 rw [hval]
 have HS := Lib.hid hS
 have KC := Lib.hid (ho4_has w.heap.size (w.heap.size + 1 + 1) (fun k => k.hold P t) _ ks W3 hKs (by omega) (Lib.hid fun q hq vc vd W' hs hFq => ho4_any K w.heap.size (w.heap.size + 1 + 1) q (hkm q hq) (hgk q hq) (hff.2 q hq) t ht hw vc vd _ _ _ W' (hX.keep hs) (hZ.keep hs) (TxAt.below hTx3 hs) hFq (TAt.below hs hT3)))
 generalize (ks.any fun k => k.hold P t) = v at *
 generalize t.cs.length = l1 at *
 generalize t.vs.length = l2 at *
 generalize t.ps.length = l3 at *
 generalize is.length = l4 at *
 generalize ks.length = l5 at *
 clear hval hwf hff htz htl hfs hkl hkm hpk hS1 hS2 hS3 hz1 hz2 hX1 hX2 hY2 hX hY hZ hTx3 hF3 hT3 hE hP hI hKs hTx hF hT hfw ht hw hgk hpr K hm hS
 go_enter Tryz.func61, Tryz.ntmps61
 go_upto_region 1 with (fail)
 rw [← hW1, ← hW2, ← hW3]
 clear hW1 hW2 hW3
 go_wp2_with fail
 refine KC.out.mono ?_
 rintro e w4 ⟨rfl, hr⟩
 have HB := Lib.hid (Since.step HS.out hr)
 clear hr x0 y0 y1 y2 y3 z0 z1 z2
 go_wp2
 go_ret
 exact ⟨rfl, HB.out⟩
set_option maxHeartbeats 4000000 in
set_option maxRecDepth 100000 in
theorem hold_6 {N : Nat} {P : List (List Int)} {m : Nat} (hm : m ≤ 1000000) (K : Hid (HoldK N P m)) (n : Int) (is : List Iv) (ks : List Fo) (hfs : (Fo.mk 6 n is ks).size ≤ m + 1) (hpr : properB 6 n is.length ks.length (validL is) = true) (hgk : ∀ u ∈ ks, u.good = true) (hfw : (Fo.mk 6 n is ks).wf) (t : Th) (ht : t.size ≤ 1000000) (hw : t.wf) (c d a b e : Value) (w : World) (hTx : TxAt N P w) (hF : FAt w.heap.size w (.mk 6 n is ks) c d) (hT : TAt w.heap.size w t a b e) :
  Calls Tryz.prog 61 #[.pointer (some ⟨N, 0, none⟩), .agg #[.int .i64 6, .int .i64 n, c, d], .agg #[a, b, e]] w fun e w' => e = .returned (.bool (Fo.hold P (.mk 6 n is ks) t)) ∧ Below w.heap.size w w' := by
 have hall := And.intro hm (And.intro K (And.intro hgk ht))
 clear hall
 have hwf := (Th.wf_eq t).1 hw
 have hff := (Fo.wf_eq _).1 hfw
 simp only [Fo.is, Fo.ks] at hff
 have htz := t.size_eq
 have htl := Th.sizes_len t.ps
 rw [Fo.size] at hfs
 have hkl := Fo.sizes_len ks
 have hkm : ∀ u ∈ ks, u.size ≤ m := fun u hu => by have := Fo.sizes_mem hu; omega
 have hpk := (proper_kid hpr).2
 obtain ⟨W1, hW1⟩ : ∃ W1, W1 = w.alloc (.cells #[.pointer (some ⟨N, 0, none⟩)] 33) := ⟨_, rfl⟩
 have hS1 : Since w W1 := by rw [hW1]; exact Since.alloc (since_r _) _
 have hz1 : W1.heap.size = w.heap.size + 1 := by rw [hW1, World.size_alloc]
 have hX1 : BoxL w.heap.size [.pointer (some ⟨N, 0, none⟩)] W1 := by rw [hW1]; exact BoxL.made w _ _
 obtain ⟨W2, hW2⟩ : ∃ W2, W2 = W1.alloc (.cells #[.int .i64 6, .int .i64 n, c, d] 29) := ⟨_, rfl⟩
 have hS2 : Since W1 W2 := by rw [hW2]; exact Since.alloc (since_r _) _
 have hz2 : W2.heap.size = w.heap.size + 1 + 1 := by rw [hW2, World.size_alloc, hz1]
 have hX2 := hX1.keep hS2
 have hY2 : BoxL (w.heap.size + 1) [.int .i64 6, .int .i64 n, c, d] W2 := by rw [hW2, ← hz1]; exact BoxL.made W1 _ _
 obtain ⟨W3, hW3⟩ : ∃ W3, W3 = W2.alloc (.cells #[a, b, e] 41) := ⟨_, rfl⟩
 have hS3 : Since W2 W3 := by rw [hW3]; exact Since.alloc (since_r _) _
 have hX := hX2.keep hS3
 have hY := hY2.keep hS3
 have hZ : BoxL (w.heap.size + 1 + 1) [a, b, e] W3 := by rw [hW3, ← hz2]; exact BoxL.made W2 _ _
 have hS := Since.step (Since.step hS1 hS2) hS3
 have hTx3 := TxAt.below hTx hS
 have hF3 := FAt.below hS hF
 have hT3 := TAt.below hS hT
 obtain ⟨a1, c1, a2, c2, a3, c3, rfl, rfl, rfl, hE, -, hP, -⟩ := hT3.shape
 obtain ⟨a4, c4, a5, c5, rfl, rfl, hI, hKs, -⟩ := hF3.shape
 simp only [Fo.is, Fo.ks] at *
 obtain ⟨x0, -⟩ := hX.open1
 obtain ⟨y0, y1, y2, y3, -⟩ := hY.open4
 obtain ⟨z0, z1, z2, -⟩ := hZ.open3
 have hval : Fo.hold P (.mk 6 n is ks) t = (!Fo.hold1 P ks t) := by rw [Fo.hold]; simp
 rw [hval]
 have HS := Lib.hid hS
 have hk1 : ks.length = 1 := hpk (by decide)
 obtain ⟨k, rfl⟩ : ∃ k, ks = [k] := by
  match ks, hk1 with
  | [k], _ => exact ⟨k, rfl⟩
 obtain ⟨g, k', rfl, -, hgs, -, hq, vc, vd, k0, k1, k2, k3, hFk⟩ := hKs.get (j := 0) (by simp)
 cases hq
 have hkm1 := hkm k (by simp)
 have hgk1 := hgk k (by simp)
 have hkw1 := hff.2 k (by simp)
 have hSd : Since W3 W3.drew := since_d (since_r _)
 have KC := Lib.hid (K.out k hkm1 hgk1 hkw1 t ht hw vc vd _ _ _ W3.drew (TxAt.below hTx3 hSd) (FAt.below hSd hFk) (TAt.below hSd hT3))
 rw [Fo.hold1]
 generalize k.hold P t = v at *
 obtain ⟨a6, c6, a7, c7, rfl, rfl, -⟩ := hFk.shape
 generalize k.op = o1 at *
 generalize k.n = o2 at *
 generalize k.is.length = l6 at *
 generalize k.ks.length = l7 at *
 simp only [List.length_singleton] at *
 clear hk1 hkm1 hgk1 hkw1 hFk hgs
 generalize t.cs.length = l1 at *
 generalize t.vs.length = l2 at *
 generalize t.ps.length = l3 at *
 generalize is.length = l4 at *
 clear hval hwf hff htz htl hfs hkl hkm hpk hS1 hS2 hS3 hz1 hz2 hX1 hX2 hY2 hX hY hZ hTx3 hF3 hT3 hE hP hI hKs hTx hF hT hfw ht hw hgk hpr K hm hS
 go_enter Tryz.func61, Tryz.ntmps61
 go_upto_region 1 with (fail)
 rw [← hW1, ← hW2, ← hW3]
 clear hW1 hW2 hW3
 go_upto_region 15 with (fail)
 go_region_held3 (fun w' => w'.cell? ⟨w.heap.size, 0, none⟩ = some (.pointer (some ⟨N, 0, none⟩)) ∧ w'.cell? ⟨w.heap.size + 1, 3, none⟩ = some (.slice (some ⟨g, 0, none⟩) 1 c5) ∧ w'.cell? ⟨g, 0, none⟩ = some (.int .i64 o1) ∧ w'.cell? ⟨g, 1, none⟩ = some (.int .i64 o2) ∧ w'.cell? ⟨g, 2, none⟩ = some (.slice a6 l6 c6) ∧ w'.cell? ⟨g, 3, none⟩ = some (.slice a7 l7 c7) ∧ w'.cell? ⟨w.heap.size + 1 + 1, 0, none⟩ = some (.slice a1 l1 c1) ∧ w'.cell? ⟨w.heap.size + 1 + 1, 1, none⟩ = some (.slice a2 l2 c2) ∧ w'.cell? ⟨w.heap.size + 1 + 1, 2, none⟩ = some (.slice a3 l3 c3) ∧ Since W3 w')
  ((with_reducible refine ⟨Since.cell ?_ x0, Since.cell ?_ y3, Since.cell ?_ k0, Since.cell ?_ k1, Since.cell ?_ k2, Since.cell ?_ k3, Since.cell ?_ z0, Since.cell ?_ z1, Since.cell ?_ z2, ?_⟩) <;> (repeat (first | with_reducible assumption | with_reducible exact since_r _ | with_reducible refine Since.alloc ?_ _ | with_reducible refine since_d ?_)))
  ((go_at_call 61; refine KC.out.mono ?_; rintro e w' ⟨rfl, hr⟩; have hB4 : Since W3 w' := Since.step hSd hr))
 have HB9 := Lib.hid (Since.step HS.out hB4)
 clear hB4 hr hSd x0 y0 y1 y2 y3 z0 z1 z2 k0 k1 k2 k3
 go_wp2
 go_ret
 exact ⟨rfl, HB9.out⟩
theorem hold_step {N : Nat} {P : List (List Int)} {m : Nat} (hm : m ≤ 1000000) (K : Hid (HoldK N P m)) : HoldK N P (m + 1) := by
 intro f hfs hfg hfw t ht hw c d a b e w hTx hF hT
 obtain ⟨op, n, is, ks⟩ := f
 rw [Fo.good, Bool.and_eq_true] at hfg
 have hgk := goods_mem hfg.2
 rcases (proper_kid hfg.1).1 with rfl | rfl | rfl | rfl | rfl | rfl | rfl
 ·exact hold_0 hm K n is ks hfs hfg.1 hgk hfw t ht hw c d a b e w hTx hF hT
 ·exact hold_1 hm K n is ks hfs hfg.1 hgk hfw t ht hw c d a b e w hTx hF hT
 ·exact hold_2 hm K n is ks hfs hfg.1 hgk hfw t ht hw c d a b e w hTx hF hT
 ·exact hold_3 hm K n is ks hfs hfg.1 hgk hfw t ht hw c d a b e w hTx hF hT
 ·exact hold_4 hm K n is ks hfs hfg.1 hgk hfw t ht hw c d a b e w hTx hF hT
 ·exact hold_5 hm K n is ks hfs hfg.1 hgk hfw t ht hw c d a b e w hTx hF hT
 ·exact hold_6 hm K n is ks hfs hfg.1 hgk hfw t ht hw c d a b e w hTx hF hT
theorem hold_all (N : Nat) (P : List (List Int)) : ∀ m : Nat, m ≤ 1000000 → HoldK N P m
 | 0, _ => fun f hf => by
  have := f.size_pos
  omega
 | m + 1, h => hold_step (by omega) (Lib.hid (hold_all N P m (by omega)))
end Go.Proofs.YtgnloodmbgdgdaaGreat
