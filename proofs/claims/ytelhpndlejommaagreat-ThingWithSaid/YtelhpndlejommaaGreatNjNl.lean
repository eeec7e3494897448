import Derived.Test.YtelhpndlejommaaGreatNi
import Derived.Test.YtelhpndlejommaaGreatNcNg
import Derived.Test.YtelhpndlejommaaGreatYoYp
/- Package thing's sorted: the normal form. -/
namespace Go.Proofs.YtelhpndlejommaaGreat
open Go.RowKit Go.Shelf

theorem sort_fin2 {t : Th} {W w : World} {N0 N1 N : Nat} {a1 a2 a3 : Option Addr} {n1 c1 n2 c2 n3 c3 : Nat} {cs : List Int} {vs : List Va} {rs : List Tr} {ps : List Th} (h1 : W.heap.size ≤ N1) (h2 : N1 < N0) (hB : Below W.heap.size W w)
    (hO : OB (fun k => False ∨ N0 ≤ k) N0 N w (.slice a1 n1 c1) (.slice a2 n2 c2) (.slice a3 n3 c3) cs vs rs ps) (hn : t.norm = some (.mk cs vs ps)) :
    SortOut t W (.returned (.tuple #[.agg #[.slice a1 n1 c1, .slice a2 n2 c2, .slice a3 n3 c3], .bool true])) (put3 w N1 (.slice a1 n1 c1) (.slice a2 n2 c2) (.slice a3 n3 c3)) := by
  have hd := (hO.putlow h2 (.slice a1 n1 c1) (.slice a2 n2 c2) (.slice a3 n3 c3)).done (fun k hk => .inr hk)
  have hk := TS.keep (w := put3 w N1 (.slice a1 n1 c1) (.slice a2 n2 c2) (.slice a3 n3 c3)) (W := put3 w N1 (.slice a1 n1 c1) (.slice a2 n2 c2) (.slice a3 n3 c3)) ⟨Nat.le_refl _, fun _ _ _ => rfl⟩ (S' := fun k => False ∨ W.heap.size ≤ k) (fun k _ hk => by rcases hk.1 with h | h; exact h.elim; exact .inr (by omega)) _ hd
  refine ⟨⟨a1, n1, c1, a2, n2, c2, a3, n3, c3⟩, by rw [hn]; rfl, Lib.hid (put3_below hB h1 _ _ _), Lib.hid fun v hv => ?_, Lib.hid fun h => by rw [hn] at h; cases h⟩
  rw [hn] at hv
  injection hv with hv
  rw [← hv]
  exact hk

section
variable {S : Nat → Prop} {B N : Nat} {w w' : World} {va vb vc : Value} {cs : List Int} {vs : List Va} {rs : List Tr} {ps : List Th}

/-- Values changed in place. -/
theorem OB.upd2 {vs' : List Va} (h : OB S B N w va vb vc cs vs rs ps) (hp : PF vb w w' vb) (hO : ROwn RVa 46 B w' vb vs') : OB S B N w' va vb vc cs vs' rs ps :=
  ⟨h.there2 hp, h.hB, h.oa.keepS fun g e hl => hp.1.2 g (fun e2 => h.ab g e e2) hl, hO, h.oc.keepS fun g e hl => hp.1.2 g (fun e2 => h.bc g e2 e) hl, h.lie.keep ⟨hp.1.1, fun b hb hl => hp.1.2 b hb.2.2.2.1 hl⟩ fun _ _ h => h, h.na, h.nb, h.nc, h.ab, h.ac, h.bc⟩

/-- The same in a new box. -/
theorem OB.rebox (h : OB S B N w va vb vc cs vs rs ps) (T : TypeId) : OB S B w.heap.size (w.alloc (.cells #[va, vb, vc] T)) va vb vc cs vs rs ps := by
  have hB : Below w.heap.size w (w.alloc (.cells #[va, vb, vc] T)) := (Below.refl _ _).alloc (Nat.le_refl _) _
  have hN := h.box.1
  have hb := h.hB
  exact ⟨BoxL.made w _ T, by omega, h.oa.below hB, h.ob.below hB, h.oc.below hB, (h.lie.keep (S' := Free S w.heap.size va vb vc) ⟨hB.size, fun b _ hl => hB.block b hl⟩ fun k hl hk => ⟨hk.1, by omega, hk.2.2.1, hk.2.2.2.1, hk.2.2.2.2⟩), fun e => by have := (h.oa.lt _ e).2; omega, fun e => by have := (h.ob.lt _ e).2; omega, fun e => by have := (h.oc.lt _ e).2; omega, h.ab, h.ac, h.bc⟩

/-- A thing that was made since. -/
theorem OB.fresh {N0 p : Nat} {v9 w3 : World} {u : Th} {r : Tr} (h : OB (fun k => False ∨ N0 ≤ k) N0 N w va vb vc cs vs rs ps) (h0 : N0 ≤ w.heap.size) (hw : w.heap.size ≤ p) (hT : TSr (fun k => (False ∨ p ≤ k) ∧ k < v9.heap.size) v9 u r) (hk : Since v9 w3) :
    TS (fun k => Free (fun k => False ∨ N0 ≤ k) N va vb vc k ∧ k < w3.heap.size) w3 u (.slice r.a1 r.n1 r.c1) (.slice r.a2 r.n2 r.c2) (.slice r.a3 r.n3 r.c3) := by
  have h1 := h.part (S0 := fun k => (False ∨ p ≤ k) ∧ k < v9.heap.size) (fun k _ hk => by
    have hk2 : p ≤ k := by rcases hk.1 with h | h; exact h.elim; exact h
    exact ⟨.inr (by omega), .inr (by omega)⟩) hT
  refine TS.keep (S := fun k => Free (fun k => False ∨ N0 ≤ k) N va vb vc k ∧ k < v9.heap.size) (S' := Free (fun k => False ∨ N0 ≤ k) N va vb vc) ⟨since_size hk, fun b hb hl => hk.block b hl⟩ (fun b _ hb => hb.1) u h1

end

/-- The values of the normal form by a sort and a compaction. -/
theorem values_pair {ys xs : List Va} (hp : ys.Perm xs) (hs : ys.Pairwise fun a b => vcmp a b ≤ 0) : (Lib.compact ys).Pairwise (fun a b => vcmp a b < 0) ∧ ∀ x, x ∈ Lib.compact ys ↔ x ∈ xs := by
  obtain ⟨h1, h2⟩ := compact_pair (fun a b : Va => vcmp a b ≤ 0) (fun a b c h1 h2 => vcmp_ord.trans a b c h1 h2) (fun a b h1 h2 => vcmp_ord.zero a b (by have := vcmp_ord.anti a b; omega)) (fun a => by rw [vcmp_ord.self]; exact Int.le_refl 0) ys hs
  refine ⟨h1.imp fun {a b} h => ?_, fun x => (h2 x).trans hp.mem_iff⟩
  have h3 := h.1
  have h4 : vcmp a b ≠ 0 := fun e => h.2 (vcmp_ord.zero a b e)
  omega

/-- No two neighbours among the first k have an attribute in common. -/
def NoTwo (vl : List Va) (k : Nat) : Prop := ∀ i x y, i + 1 < k → vl[i]? = some x → vl[i + 1]? = some y → x.t ≠ y.t

def TSortK (m : Nat) : Prop := ∀ (t : Th), t.size ≤ m → t.wf → t.wt ≤ 100000 → ∀ (a b c : Value) (W : World), TAt W.heap.size W t a b c →
  Calls Tryz.prog 19 #[.agg #[a, b, c]] W (SortOut t W)

theorem Th.size_one (cs : List Int) (vs : List Va) : (Th.mk cs vs []).size = 1 := by rw [Th.size_eq]; rfl

set_option maxHeartbeats 8000000 in
set_option maxRecDepth 100000 in
theorem tsort_step (M : Nat) (K : Hid (TSortK M)) : TSortK (M + 1) := by
  intro t ht hwf hwt a b c W hT
  obtain ⟨a1, c1, a2, c2, a3, c3, rfl, rfl, rfl, hE1, hE2, hP, hL1, hL2⟩ := hT.shape
  have hwfe := (Th.wf_eq t).1 hwf
  have hwp := hwfe.2
  have hsz := t.size_eq
  have hwe := t.wt_eq
  have hpl := Th.wts_len t.ps
  have hws : Th.sizes t.ps ≤ 100000 := by have := t.size_eq; have := Th.size_wt t; omega
  have KS := Lib.hid fun (u : Th) (hu : u ∈ t.ps) (a b c : Value) W h => K.out u (by have := Th.sizes_mem hu; omega) (hwp u hu) (by have := Th.wts_mem hu; omega) a b c W h
  have HOF := Lib.hid fun (vl : List Va) (ql : List Th) h1 h2 => norm_of (t := t) (vl := vl) (ql := ql) h1 h2
  have HNV := Lib.hid fun h => norm_noV (t := t) h
  have HNP := Lib.hid fun h => norm_noP (t := t) h
  have hmk : (Th.mk t.cs t.vs []).wf := (Th.wf_eq _).2 ⟨hwfe.1, fun u hu => by cases hu⟩
  have hmw : (Th.mk t.cs t.vs []).wt ≤ 100000 := by rw [Th.wt_eq]; show 3 + t.cs.length + 3 * t.vs.length + 0 ≤ 100000; omega
  have HCO : Hid (∀ k ql, Th.norms (t.ps.take k) = some ql → ∀ q ∈ ql, CmpOk q) := Lib.hid fun k ql hq q hq2 => by
    obtain ⟨f1, -, f3, -⟩ := Th.norms_facts _ _ hq
    refine ⟨f3 (fun u hu => hwp u (List.mem_of_mem_take hu)) q hq2, ?_⟩
    have := Th.sizes_mem hq2
    have := Th.sizes_take t.ps k
    omega
  generalize t.cs = cs at *
  generalize t.vs = vs at *
  generalize t.ps = ps at *
  have hn1 : cs.length ≤ 100000 := by omega
  have hn2 : vs.length ≤ 100000 := by omega
  have hn3 : ps.length ≤ 100000 := by omega
  obtain ⟨W2, hW2⟩ : ∃ W2, W2 = (W.alloc (.cells #[.slice a1 cs.length c1, .slice a2 vs.length c2, .slice a3 ps.length c3] 27)).alloc (.cells #[.slice none 0 0, .slice none 0 0, .slice none 0 0] 27) := ⟨_, rfl⟩
  have hB2 : Below W.heap.size W W2 := by rw [hW2]; exact ((Below.refl _ _).alloc (Nat.le_refl _) _).alloc (by simp) _
  have hX : BoxL W.heap.size [.slice a1 cs.length c1, .slice a2 vs.length c2, .slice a3 ps.length c3] W2 := by rw [hW2]; exact (BoxL.made W _ _).under _
  have hR : BoxL (W.heap.size + 1) [.slice none 0 0, .slice none 0 0, .slice none 0 0] W2 := by
    rw [hW2]
    have := BoxL.made (W.alloc (.cells #[.slice a1 cs.length c1, .slice a2 vs.length c2, .slice a3 ps.length c3] 27)) #[.slice none 0 0, .slice none 0 0, .slice none 0 0] 27
    rwa [World.size_alloc] at this
  have hsz2 : W2.heap.size = W.heap.size + 1 + 1 := by rw [hW2, World.size_alloc, World.size_alloc]
  have hBs : ∀ w, Since W2 w → Below W.heap.size W w := fun w h => hB2.trans (Below.mono h hB2.size)
  have HFN := Lib.hid fun (w : World) (N0 N : Nat) (b1 b2 b3 : Option Addr) (l1 d1 l2 d2 l3 d3 : Nat) cs' vs' rs' ps' hN h hS hn => sort_fin2 (t := t) (W := W) (w := w) (N1 := W.heap.size + 1) (N0 := N0) (N := N) (a1 := b1) (a2 := b2) (a3 := b3) (n1 := l1) (c1 := d1) (n2 := l2) (c2 := d2) (n3 := l3) (c3 := d3) (cs := cs') (vs := vs') (rs := rs') (ps := ps') (by omega) hN (hBs w hS) h hn
  have HNO := Lib.hid fun (w : World) hS hn => sort_no (t := t) (W := W) (w := w) (N1 := W.heap.size + 1) (by omega) (hBs w hS) hn
  have HC3 := Lib.hid fun (w : World) (hS : Since W2 w) => Ps.below (hBs w hS) hP
  have KC := Lib.hid (clone_all 1 (.mk cs vs []) (by rw [Th.size_one]; exact Nat.le_refl _) hmk hmw (.slice a1 cs.length c1) (.slice a2 vs.length c2) (.slice none 0 0) W2 (TAt.of (hE1.low hL1 hB2) (hL1.mono hB2.size) (hE2.low hL2 hB2) (hL2.mono hB2.size) (.inl ⟨.inl rfl, rfl⟩)))
  have HX := Lib.hid hX
  have HR := Lib.hid hR
  have HSZ : Hid (W.heap.size + 1 < W2.heap.size) := Lib.hid (by omega)
  generalize hc1 : cs.length = n1 at *
  generalize hc2 : vs.length = n2 at *
  generalize hc3 : ps.length = n3 at *
  have HN1 := Lib.hid hc1
  have HN2 := Lib.hid hc2
  have HN3 := Lib.hid hc3
  obtain ⟨p0, p1, p2, -⟩ := hX.open3
  clear hX hR hsz2 hP hE1 hE2 hL1 hL2 hT hwf hB2 ht hsz hwe hpl hwp hwt K hBs hc1 hc2 hc3 hws hwfe hmk hmw
  go_enter Tryz.func19, Tryz.ntmps19
  go_upto_region 1 with (fail)
  rw [← hW2]
  clear hW2
  generalize hN1 : W.heap.size + 1 = N1 at *
  clear hN1
  go_wp2_with fail
  refine KC.out.mono ?_
  rintro e wn ⟨⟨b1, m1, d1, b2, m2, d2, b3, m3, d3⟩, Nc, N0, rs0, rfl, hOc, hN0, hBn⟩
  simp only
  obtain ⟨W3, hW3⟩ : ∃ W3, W3 = wn.alloc (.cells #[.slice b1 m1 d1, .slice b2 m2 d2, .slice b3 m3 d3] 27) := ⟨_, rfl⟩
  have hO3 : OB (fun k => False ∨ N0 ≤ k) N0 wn.heap.size W3 (.slice b1 m1 d1) (.slice b2 m2 d2) (.slice b3 m3 d3) cs vs rs0 [] := by rw [hW3]; exact hOc.out.rebox _
  have hS3 : Since W2 W3 := by rw [hW3]; exact Since.alloc hBn.out _
  have hNN0 : N1 < N0 := by have := HSZ.out; have := hN0.out; omega
  have hWN : Hid (W2.heap.size ≤ N0) := hN0
  clear KC p0 p1 p2 hOc hBn hN0
  obtain ⟨x0, x1, x2, f0, f1, f2, -⟩ := hO3.box.open3
  have HO3 := Lib.hid hO3
  have HS3 := Lib.hid hS3
  have HNN := Lib.hid hNN0
  clear hO3 hS3 hNN0
  go_upto_region 2 with (fail)
  rw [← hW3]
  generalize wn.heap.size = N at *
  clear hW3
  -- the classes
  have K1 := Lib.hid (sortI_any N0 _ cs W3 HO3.out.oa (by have := HN1.out; omega))
  go_wp2_with fail
  refine K1.out.mono ?_
  rintro e W4 ⟨rfl, hO, hPF, hB⟩
  have HO4 := Lib.hid (HO3.out.upd1 hPF hO)
  have HS4 := Lib.hid (Below.trans HS3.out (hB.mono hWN.out))
  clear hO hPF hB K1 HO3 HS3 x0 x1 x2 f0 f1 f2
  obtain ⟨x0, x1, x2, f0, f1, f2, -⟩ := HO4.out.box.open3
  have K2 := Lib.hid (compI_any N0 _ _ W4 HO4.out.oa (by rw [List.length_mergeSort, HN1.out]; omega))
  go_wp2_with fail
  refine K2.out.mono ?_
  rintro e wm ⟨ak, lk, ck, rfl, hOk, hPk, hBk⟩
  obtain ⟨y0, y1, y2, g0, g1, g2, -⟩ := (HO4.out.there1 hPk.out).open3
  have hO5 := HO4.out.set1 hPk.out hOk.out
  rw [classes_one] at hO5
  have hS5 : Since W2 (wm.setCell ⟨N, 0, none⟩ (.slice ak lk ck)) := since_set (Below.trans HS4.out (hBk.out.mono hWN.out)) (by have := HO4.out.hB; have := hWN.out; omega) _ _
  clear K2 x0 x1 x2 f0 f1 f2 HO4 HS4
  go_upto_region 4 with (fail)
  generalize wm.setCell ⟨N, 0, none⟩ (.slice ak lk ck) = W5 at *
  have HO5 := Lib.hid hO5
  have HS5 := Lib.hid hS5
  clear hO5 hS5 y0 y1 y2 g0 g1 g2 hOk hPk hBk
  -- the values
  obtain ⟨x0, x1, x2, f0, f1, f2, -⟩ := HO5.out.box.open3
  have K3 := Lib.hid (sortV_any N0 _ vs W5 HO5.out.ob (by have := HN2.out; omega))
  go_wp2_with fail
  refine K3.out.mono ?_
  rintro e W6 ⟨ys, ⟨rfl, hO, hPF, hB⟩, hpm, hpr⟩
  have HO6 := Lib.hid (HO5.out.upd2 hPF hO)
  have HS6 := Lib.hid (Below.trans HS5.out (hB.mono hWN.out))
  have hyl : ys.length ≤ 1000000 := by rw [hpm.length_eq, HN2.out]; omega
  obtain ⟨hvp, hvm⟩ := values_pair hpm hpr
  clear hO hPF hB K3 HO5 HS5 x0 x1 x2 f0 f1 f2 hpm hpr
  obtain ⟨x0, x1, x2, f0, f1, f2, -⟩ := HO6.out.box.open3
  have K4 := Lib.hid (compV_any N0 _ ys W6 HO6.out.ob hyl)
  have hcl : (Lib.compact ys).length ≤ 1000000 := Nat.le_trans (compact_len _ _) hyl
  generalize Lib.compact ys = vl at *
  clear hyl
  go_wp2_with fail
  refine K4.out.mono ?_
  rintro e wm ⟨bk, mk, dk, rfl, hOk, hPk, hBk⟩
  obtain ⟨y0, y1, y2, g0, g1, g2, -⟩ := (HO6.out.there2 hPk.out).open3
  have hO7 := HO6.out.set2 hPk.out hOk.out
  have hS7 : Since W2 (wm.setCell ⟨N, 1, none⟩ (.slice bk mk dk)) := since_set (Below.trans HS6.out (hBk.out.mono hWN.out)) (by have := HO6.out.hB; have := hWN.out; omega) _ _
  clear K4 x0 x1 x2 f0 f1 f2 HO6 HS6
  go_upto_region 6 with (fail)
  generalize wm.setCell ⟨N, 1, none⟩ (.slice bk mk dk) = W7 at *
  have HO7 := Lib.hid hO7
  have HS7 := Lib.hid hS7
  have HVP := Lib.hid hvp
  have HVM := Lib.hid hvm
  have hml := hO7.ob.els.len
  have HML := Lib.hid hml
  have hmk : mk ≤ 1000000 := by omega
  clear hO7 hS7 y0 y1 y2 g0 g1 g2 hOk hPk hBk hvp hvm hml hcl
  obtain ⟨x0, x1, x2, f0, f1, f2, -⟩ := HO7.out.box.open3
  have HN0 : Hid (NoTwo vl 0) := Lib.hid fun i x y h => by omega
  go_wp2
  clear x0 x1 x2 f0 f1 f2
  go_loopw [34] (fun v wr => ∃ k : Nat, k ≤ mk ∧ v = .int .i64 k ∧ Hid (NoTwo vl k) ∧ Hid (OB (fun k => False ∨ N0 ≤ k) N0 N wr (.slice ak lk ck) (.slice bk mk dk) (.slice b3 m3 d3) (ascI cs) vl rs0 []) ∧ Hid (Since W2 wr)) (fun v _ => mk - (intOf v).toNat)
  case atStart => exact ⟨0, by omega, rfl, HN0, HO7, HS7⟩
  case round =>
    clear HO7 HS7 HN0
    obtain ⟨k, hk, rfl, hN, hO, hS⟩ := hrel
    by_cases hlt : k < mk
    · have i1 : (k : Int) < mk := by omega
      have i4 : ((k : Int)).toNat = k := by omega
      have hE := hO.out.ob.els
      obtain ⟨v, hv⟩ : ∃ v, vl[k]? = some v := ⟨vl[k]'(by rw [← HML.out]; exact hlt), List.getElem?_eq_getElem _⟩
      obtain ⟨gv, rfl, -⟩ := hE.get hlt
      obtain ⟨e0, e1, e2, -⟩ := va_at hE hv
      rename World => wx
      obtain ⟨wr, hwr⟩ : ∃ wr, wr = wx.alloc (.cells #[.int .i64 v.t, .int .i64 v.n, .int .i64 v.d] 46) := ⟨_, rfl⟩
      have hSx : Since wx wr := by rw [hwr]; exact Since.alloc (Since.refl _) _
      have hX5 : BoxL wx.heap.size [.int .i64 v.t, .int .i64 v.n, .int .i64 v.d] wr := by rw [hwr]; exact BoxL.made _ _ _
      have HOR := Lib.hid (hO.out.frame hSx)
      have HSR := Lib.hid (Since.step hS.out hSx)
      obtain ⟨x0, x1, x2, f0, f1, f2, -⟩ := HOR.out.box.open3
      obtain ⟨o0, o1, o2, -⟩ := hX5.open3
      by_cases hk0 : 0 < k
      · obtain ⟨q, hq⟩ : ∃ q : Nat, k = q + 1 := ⟨k - 1, by omega⟩
        have i3 : IntKind.i64.wrap ((k : Int) - 1) = (q : Int) := by rw [IntWalk.i64_in _ (by omega)]; omega
        have i5 : (q : Int) < mk := by omega
        have i6 : (0 : Int) ≤ (q : Int) := by omega
        have i7 : q < mk := by omega
        have i8 : (k : Int) > 0 := by omega
        obtain ⟨u, hu⟩ : ∃ u, vl[q]? = some u := ⟨vl[q]'(by rw [← HML.out]; exact i7), List.getElem?_eq_getElem _⟩
        obtain ⟨r0, r1, r2, -⟩ := va_at HOR.out.ob.els hu
        have hvq : vl[q + 1]? = some v := by rw [← hq]; exact hv
        by_cases hut : u.t = v.t
        · have HNN2 := Lib.hid (HNV.out (valsL_no HVP.out HVM.out hu hvq hut))
          obtain ⟨vt, vn, vd⟩ := v
          obtain ⟨ut, un, ud⟩ := u
          simp only at e0 e1 e2 o0 o1 o2 r0 r1 r2 hut hwr
          subst hut
          clear hv hu hvq hE hq hX5 hSx
          go_upto_region 9 with (fail)
          rw [← hwr]
          generalize wx.heap.size = M5 at *
          clear hwr e0 e1 e2
          go_quiet (fail)
          have hS9 : Since W2 (wr.drewN nq) := below_drewN HSR.out nq
          have HFI := Lib.hid (HNO.out _ hS9 HNN2.out)
          obtain ⟨z0, z1, z2, zf0, zf1, zf2, -⟩ := (HR.out.keep hS9).open3
          unfold put3 at HFI
          clear hS9
          go_wp2
          exact bodyPost_ret (v := .tuple #[.agg #[.slice none 0 0, .slice none 0 0, .slice none 0 0], .bool false]) (by simp [results, Tryz.results19, go_sem, z0, z1, z2]) rfl HFI.out
        · have HN7 : Hid (NoTwo vl (k + 1)) := Lib.hid fun i x y hi hx hy => by
            by_cases h : i + 1 < k
            · exact hN.out i x y h hx hy
            · have e : i = q := by omega
              subst e
              rw [hu] at hx
              rw [hvq] at hy
              cases hx
              cases hy
              exact hut
          obtain ⟨vt, vn, vd⟩ := v
          obtain ⟨ut, un, ud⟩ := u
          simp only at e0 e1 e2 o0 o1 o2 r0 r1 r2 hut hwr
          have hut2 : (ut == vt) = false := by simpa using hut
          clear hv hu hvq hE hq hX5 hSx hut
          go_upto_region 9 with (fail)
          rw [← hwr]
          generalize wx.heap.size = M5 at *
          clear hwr e0 e1 e2
          go_quiet (fail)
          have HO8 := Lib.hid (HOR.out.frame (below_drewN (Since.refl wr) nq))
          have HS8 : Hid (Since W2 (wr.drewN nq)) := Lib.hid (below_drewN HSR.out nq)
          go_wp2
          go_roundw
          case rel => exact ⟨k + 1, by omega, by go_num, HN7, HO8, HS8⟩
          case measure => simp [intOf] <;> omega
      · have hk00 : k = 0 := by omega
        subst hk00
        have HN7 : Hid (NoTwo vl (0 + 1)) := Lib.hid fun i x y hi => by omega
        obtain ⟨vt, vn, vd⟩ := v
        simp only at e0 e1 e2 o0 o1 o2 hwr
        have d1 : decide (0 < 0) = false := rfl
        clear hv hE hX5 hSx hk0
        go_upto_region 9 with (fail)
        rw [← hwr]
        generalize wx.heap.size = M5 at *
        clear hwr e0 e1 e2
        go_quiet (fail)
        have HO8 := Lib.hid (HOR.out.frame (below_drewN (Since.refl wr) nq))
        have HS8 : Hid (Since W2 (wr.drewN nq)) := Lib.hid (below_drewN HSR.out nq)
        go_wp2
        go_roundw
        case rel => exact ⟨0 + 1, by omega, by go_num, HN7, HO8, HS8⟩
        case measure => simp [intOf] <;> omega
    · have i1 : ¬ (k : Int) < mk := by omega
      have hkm : k = mk := by omega
      have HVL : Hid (valsL vs [] = some vl) := Lib.hid (valsL_one HVP.out HVM.out fun i x y hx hy => by
        have h2 := (List.getElem?_eq_some_iff.1 hy).1
        have := HML.out
        exact hN.out i x y (by omega) hx hy)
      have HO1 := hO
      have HS1 := hS
      have HE0 : Hid (Th.norms (ps.take 0) = some []) := Lib.hid rfl
      obtain ⟨p0, p1, p2, -⟩ := (HX.out.keep hS.out).open3
      clear hO hS hN hkm HVP HVM HNV HML
      go_wp2
      clear p0 p1 p2
      rename World => wo2
      go_loopw [58] (fun v wr => ∃ (k : Nat) (b3 : Option Addr) (m3 d3 : Nat) (ql : List Th) (rs : List Tr), k ≤ n3 ∧ v = .int .i64 k ∧ Hid (Th.norms (ps.take k) = some ql) ∧ Hid (OB (fun k => False ∨ N0 ≤ k) N0 N wr (.slice ak lk ck) (.slice bk mk dk) (.slice b3 m3 d3) (ascI cs) vl rs ql) ∧ Hid (Since W2 wr)) (fun v _ => n3 - (intOf v).toNat)
      case atStart => exact ⟨0, b3, m3, d3, [], rs0, by omega, rfl, HE0, HO1, HS1⟩
      case round =>
        clear HO1 HS1
        obtain ⟨k, b3, m3, d3, ql, rs, hk, rfl, hQ, hO, hS⟩ := hrel
        by_cases hlt : k < n3
        · have i1 : (k : Int) < n3 := by omega
          have i4 : ((k : Int)).toNat = k := by omega
          obtain ⟨g, u, rfl, -, -, -, hu, v1, v2, v3, e0, e1, e2, hTu⟩ := (HC3.out wr hS.out).get (j := k) (by omega)
          have hum := List.mem_of_getElem? hu
          obtain ⟨⟨q1, r1, y1, q2, r2, y2, q3, r3, y3⟩, rfl, rfl, rfl, -⟩ := (TAt.ts u hTu).shape
          simp only at e0 e1 e2 hTu
          have hln : rs.length ≤ 1000000 := by
            have h1 := hO.out.lie.1
            have h3 : ql.length ≤ k := by
              have : ∀ (a b : List Th), Th.norms a = some b → b.length = a.length := by
                intro a
                induction a with
                | nil => intro b h; rw [Th.norms] at h; cases h; rfl
                | cons x a ih =>
                  intro b h
                  rw [Th.norms] at h
                  obtain ⟨y, -, h⟩ := Option.bind_eq_some_iff.1 h
                  obtain ⟨z, hz, rfl⟩ := Option.map_eq_some_iff.1 h
                  simp [ih z hz]
              have := this _ _ hQ.out
              rw [List.length_take] at this
              omega
            omega
          rename World => wx
          obtain ⟨wr, hwr⟩ : ∃ wr, wr = wx.alloc (.cells #[.slice q1 r1 y1, .slice q2 r2 y2, .slice q3 r3 y3] 27) := ⟨_, rfl⟩
          have hSx : Since wx wr := by rw [hwr]; exact Since.alloc (Since.refl _) _
          have hX5 : BoxL wx.heap.size [.slice q1 r1 y1, .slice q2 r2 y2, .slice q3 r3 y3] wr := by rw [hwr]; exact BoxL.made _ _ _
          have kq := KS.out u hum _ _ _ wr (TAt.below hSx hTu)
          obtain ⟨o0, o1, o2, -⟩ := hX5.open3
          have HSX := Lib.hid hSx
          cases hn : u.norm with
          | none =>
            have HNN2 := Lib.hid (HNP.out (norms_stop hu hQ.out hn))
            unfold SortOut at kq
            rw [hn] at kq
            have KQ := Lib.hid kq
            clear kq hn hu hum hTu hX5 hSx
            go_upto_region 15 with (fail)
            rw [← hwr]
            generalize wx.heap.size = M5 at *
            clear hwr e0 e1 e2
            go_wp2_with fail
            refine KQ.out.mono ?_
            rintro e wn ⟨⟨s1, t1, u1, s2, t2, u2, s3, t3, u3⟩, rfl, hBn, hOn, hNn⟩
            simp only
            have hSa : Since wr (wn.alloc (.cells #[.slice s1 t1 u1, .slice s2 t2 u2, .slice s3 t3 u3] 27)) := Since.alloc hBn.out _
            have hS9 : Since W2 (wn.alloc (.cells #[.slice s1 t1 u1, .slice s2 t2 u2, .slice s3 t3 u3] 27)) := Since.step (Since.step hS.out HSX.out) hSa
            have HFI := Lib.hid (HNO.out _ hS9 HNN2.out)
            obtain ⟨z0, z1, z2, zf0, zf1, zf2, -⟩ := (HR.out.keep hS9).open3
            unfold put3 at HFI
            clear hSa hS9
            go_wp2
            exact bodyPost_ret (v := .tuple #[.agg #[.slice none 0 0, .slice none 0 0, .slice none 0 0], .bool false]) (by simp [results, Tryz.results19, go_sem, z0, z1, z2]) rfl HFI.out
          | some q =>
            have HQ7 := Lib.hid (norms_snoc hu hQ.out hn)
            unfold SortOut at kq
            rw [hn] at kq
            have KQ := Lib.hid kq
            clear kq hn hu hum hTu hX5 hSx
            have hwz : Hid (wx.heap.size ≤ wr.heap.size) := Lib.hid (since_size HSX.out)
            go_upto_region 15 with (fail)
            rw [← hwr]
            generalize hM5 : wx.heap.size = M5 at o0 o1 o2 ⊢
            clear hwr e0 e1 e2 hM5
            go_wp2_with fail
            refine KQ.out.mono ?_
            rintro e wn ⟨⟨s1, t1, u1, s2, t2, u2, s3, t3, u3⟩, rfl, hBn, hOn, hNn⟩
            simp only
            obtain ⟨w3, hw3⟩ : ∃ w3, w3 = wn.alloc (.cells #[.slice s1 t1 u1, .slice s2 t2 u2, .slice s3 t3 u3] 27) := ⟨_, rfl⟩
            have hSa : Since wn w3 := by rw [hw3]; exact Since.alloc (Since.refl _) _
            have hSb : Since wx w3 := Since.step (Since.step HSX.out hBn.out) hSa
            have hS9 : Since W2 w3 := Since.step hS.out hSb
            have hX9 : BoxL wn.heap.size [.slice s1 t1 u1, .slice s2 t2 u2, .slice s3 t3 u3] w3 := by rw [hw3]; exact BoxL.made _ _ _
            have HOA := Lib.hid (hO.out.frame hSb)
            have hN0x : N0 ≤ wx.heap.size := by have := hO.out.hB; have := hO.out.box.1; omega
            have HPT := Lib.hid (hO.out.fresh (r := ⟨s1, t1, u1, s2, t2, u2, s3, t3, u3⟩) hN0x hwz.out (hOn.out q rfl) hSa)
            obtain ⟨o0, o1, o2, -⟩ := hX9.open3
            obtain ⟨x0, x1, x2, f0, f1, f2, -⟩ := HOA.out.box.open3
            have HS9 := Lib.hid hS9
            have hzB : N0 ≤ w3.heap.size := Nat.le_trans hN0x (since_size hSb)
            have hl1 : rs.length + 1 ≤ 1000000000 := by omega
            clear hSa hSb hS9 hX9 hOn hNn hN0x hwz HSX
            go_upto_region 16 with (fail)
            rw [← hw3]
            generalize wn.heap.size = N9 at *
            clear hw3
            go_wp2_with (at_builtin; refine push_row_f rfl _ _ 23 rfl RTh 27 72 _ Tryz.underlying23 Tryz.infoTh rfl (by decide) N0 (.slice b3 m3 d3) rs [⟨s1, t1, u1, s2, t2, u2, s3, t3, u3⟩] _ _ rfl rfl _ 1 rfl rfl rfl HOA.out.oc hzB hl1 ?_; intro af lf cf wm hnn hOm hBm hPm; obtain ⟨y0, y1, y2, g0, g1, g2, -⟩ := (HOA.out.there3 hPm.out).open3)
            have HL9 := Lib.hid (HOA.out.lie.snoc (r := ⟨s1, t1, u1, s2, t2, u2, s3, t3, u3⟩) HPT.out)
            have HO7 := Lib.hid (HOA.out.set3 hPm.out hOm.out HL9.out)
            have HS7 : Hid (Since W2 (wm.setCell ⟨N, 2, none⟩ (.slice af lf cf))) := Lib.hid (since_set (Below.trans HS9.out (hBm.out.mono hWN.out)) (by have := HOA.out.hB; have := hWN.out; omega) _ _)
            go_wp2
            go_roundw
            case rel => exact ⟨k + 1, af, lf, cf, ql ++ [q], _, by omega, by go_num, HQ7, HO7, HS7⟩
            case measure => simp [intOf] <;> omega
        · have i1 : ¬ (k : Int) < n3 := by omega
          have hk1 : ps.take k = ps := List.take_of_length_le (by rw [HN3.out]; omega)
          have hco := HCO.out k ql hQ.out
          have hQ1 := hQ.out
          rw [hk1] at hQ1
          have HNO2 := Lib.hid (HOF.out vl ql HVL.out hQ1)
          have hql : ql.length ≤ 1000000000 := by
            have h1 := hO.out.lie.1
            have h2 := Th.norms_facts _ _ hQ1
            have h3 := Th.sizes_len ql
            have h4 := Th.sizes_len ps
            have h5 : ql.length ≤ 100000 := by
              have : ∀ (a b : List Th), Th.norms a = some b → b.length = a.length := by
                intro a
                induction a with
                | nil => intro b h; rw [Th.norms] at h; cases h; rfl
                | cons x a ih =>
                  intro b h
                  rw [Th.norms] at h
                  obtain ⟨y, -, h⟩ := Option.bind_eq_some_iff.1 h
                  obtain ⟨z, hz, rfl⟩ := Option.map_eq_some_iff.1 h
                  simp [ih z hz]
              rw [this _ _ hQ1, HN3.out]
              exact hn3
            omega
          obtain ⟨x0, x1, x2, f0, f1, f2, -⟩ := hO.out.box.open3
          have K5 := Lib.hid (sortT_any N0 _ (Free (fun k => False ∨ N0 ≤ k) N (.slice ak lk ck) (.slice bk mk dk) (.slice b3 m3 d3)) rs ql wr hO.out.oc hO.out.lie (fun k hk => hk.2.2.2.2) hco hql)
          clear hk1 hco hQ1 hql
          rename World => wq
          go_wp2_with fail
          refine K5.out.mono ?_
          rintro e we ⟨rs', ⟨rfl, hOe, hPe, hBe⟩, hLe⟩
          have HOE := Lib.hid (hO.out.upd3 hPe hOe hLe)
          have hS9 : Since W2 we := Below.trans hS.out (hBe.mono hWN.out)
          have hfin := HFN.out we N0 N _ _ _ _ _ _ _ _ _ _ _ _ _ HNN.out HOE.out hS9 HNO2.out
          clear x0 x1 x2 f0 f1 f2 hOe hPe hBe hLe K5
          obtain ⟨z0, z1, z2, zf0, zf1, zf2, -⟩ := (HR.out.keep hS9).open3
          obtain ⟨x0, x1, x2, f0, f1, f2, -⟩ := HOE.out.box.open3
          unfold put3 at hfin
          have HFI := Lib.hid hfin
          clear hfin hS9
          go_wp2
          exact bodyPost_ret (v := .tuple #[.agg #[.slice ak lk ck, .slice bk mk dk, .slice b3 m3 d3], .bool true]) (by simp [results, Tryz.results19, go_sem, z0, z1, z2]) rfl HFI.out

theorem tsort_all : ∀ M : Nat, TSortK M
  | 0 => fun u hu => by have := u.size_pos; omega
  | M + 1 => tsort_step M (Lib.hid (tsort_all M))

end Go.Proofs.YtelhpndlejommaaGreat

/- Normal of package thing and of its reference. -/
namespace Go.Proofs.YtelhpndlejommaaGreat
open Go.RowKit Go.Shelf

/-- What Normal answers: an error, and a thing. -/
noncomputable def normE (t : Th) : Int := match t.norm with | none => 8 | some u => validT u
open Classical in
noncomputable def normT (t : Th) : Th := match t.norm with | none => .mk [] [] [] | some u => if validT u = 0 then u else .mk [] [] []

theorem normE_none {t : Th} (h : t.norm = none) : normE t = 8 := by unfold normE; rw [h]
theorem normE_some {t u : Th} (h : t.norm = some u) : normE t = validT u := by unfold normE; rw [h]
theorem normT_none {t : Th} (h : t.norm = none) : normT t = .mk [] [] [] := by unfold normT; rw [h]
theorem normT_some {t u : Th} (h : t.norm = some u) (hv : validT u = 0) : normT t = u := by unfold normT; rw [h]; simp only [hv, if_pos]
theorem normT_bad {t u : Th} (h : t.norm = some u) (hv : validT u ≠ 0) : normT t = .mk [] [] [] := by unfold normT; rw [h]; simp only [hv, if_false]

/-- What Normal leaves. -/
def NormOut (t : Th) (W : World) (e : Ending) (w' : World) : Prop :=
  ∃ r : Tr, e = .returned (.tuple #[.agg #[.slice r.a1 r.n1 r.c1, .slice r.a2 r.n2 r.c2, .slice r.a3 r.n3 r.c3], .int .i64 (normE t)]) ∧ Hid (TSr (fun k => (False ∨ W.heap.size ≤ k) ∧ k < w'.heap.size) w' (normT t) r) ∧ Hid (Below W.heap.size W w')

theorem norm_no {t : Th} {W w : World} {N1 : Nat} {E : Int} (h1 : W.heap.size ≤ N1) (hB : Below W.heap.size W w) (hE : normE t = E) (hn : normT t = .mk [] [] []) :
    NormOut t W (.returned (.tuple #[.agg #[.slice none 0 0, .slice none 0 0, .slice none 0 0], .int .i64 E])) (put3 w N1 (.slice none 0 0) (.slice none 0 0) (.slice none 0 0)) :=
  ⟨⟨none, 0, 0, none, 0, 0, none, 0, 0⟩, by rw [hE], Lib.hid (by rw [hn]; exact ts_nil _ _), Lib.hid (put3_below hB h1 _ _ _)⟩

theorem norm_yes {t u : Th} {W w : World} {N1 B : Nat} {r : Tr} (h1 : W.heap.size ≤ N1) (h2 : N1 < B) (hB : Below W.heap.size W w) (hn : t.norm = some u) (hv : validT u = 0) (hT : TSr (fun k => (False ∨ B ≤ k) ∧ k < w.heap.size) w u r) :
    NormOut t W (.returned (.tuple #[.agg #[.slice r.a1 r.n1 r.c1, .slice r.a2 r.n2 r.c2, .slice r.a3 r.n3 r.c3], .int .i64 0])) (put3 w N1 (.slice r.a1 r.n1 r.c1) (.slice r.a2 r.n2 r.c2) (.slice r.a3 r.n3 r.c3)) := by
  refine ⟨r, by rw [normE_some hn, hv], Lib.hid ?_, Lib.hid (put3_below hB h1 _ _ _)⟩
  rw [normT_some hn hv]
  exact TS.keep (put3_keep _ _ _ _ _ fun k hk => by rcases hk.1 with h | h; exact h.elim; omega) (S' := fun k => False ∨ W.heap.size ≤ k) (fun b _ hb => by rcases hb.1 with h | h; exact h.elim; exact .inr (by omega)) _ hT

set_option maxHeartbeats 8000000 in
set_option maxRecDepth 100000 in
theorem tnormal_any (t : Th) (hwf : t.wf) (hwt : t.wt ≤ 100000) (a b c : Value) (W : World) (hT : TAt W.heap.size W t a b c) :
    Calls Tryz.prog 6 #[.agg #[a, b, c]] W (NormOut t W) := by
  have hsz : t.size ≤ 100000 := by have := Th.size_wt t; omega
  have KSA := Lib.hid fun W (h : TAt W.heap.size W t a b c) => tsort_all t.size t (Nat.le_refl _) hwf hwt a b c W h
  obtain ⟨a1, c1, a2, c2, a3, c3, rfl, rfl, rfl, -⟩ := hT.shape
  obtain ⟨W2, hW2⟩ : ∃ W2, W2 = (W.alloc (.cells #[.slice a1 t.cs.length c1, .slice a2 t.vs.length c2, .slice a3 t.ps.length c3] 27)).alloc (.cells #[.slice none 0 0, .slice none 0 0, .slice none 0 0] 27) := ⟨_, rfl⟩
  have hB2 : Below W.heap.size W W2 := by rw [hW2]; exact ((Below.refl _ _).alloc (Nat.le_refl _) _).alloc (by simp) _
  have hX : BoxL W.heap.size [.slice a1 t.cs.length c1, .slice a2 t.vs.length c2, .slice a3 t.ps.length c3] W2 := by rw [hW2]; exact (BoxL.made W _ _).under _
  have hR : BoxL (W.heap.size + 1) [.slice none 0 0, .slice none 0 0, .slice none 0 0] W2 := by
    rw [hW2]
    have := BoxL.made (W.alloc (.cells #[.slice a1 t.cs.length c1, .slice a2 t.vs.length c2, .slice a3 t.ps.length c3] 27)) #[.slice none 0 0, .slice none 0 0, .slice none 0 0] 27
    rwa [World.size_alloc] at this
  have hsz2 : W2.heap.size = W.heap.size + 1 + 1 := by rw [hW2, World.size_alloc, World.size_alloc]
  have KS := Lib.hid (KSA.out W2 (TAt.below hB2 hT))
  have HBS := Lib.hid fun w (h : Since W2 w) => hB2.trans (Below.mono h hB2.size)
  have HSZ : Hid (W.heap.size ≤ W.heap.size + 1 ∧ W.heap.size + 1 < W2.heap.size) := Lib.hid (by omega)
  have HR := Lib.hid hR
  have HWF := Lib.hid hwf
  generalize t.cs.length = n1 at *
  generalize t.vs.length = n2 at *
  generalize t.ps.length = n3 at *
  obtain ⟨p0, p1, p2, -⟩ := hX.open3
  clear hX hR hsz2 hT hwf hB2 hwt KSA
  go_enter Tryz.func6, Tryz.ntmps6
  go_upto_region 1 with (fail)
  rw [← hW2]
  clear hW2
  generalize hN1 : W.heap.size + 1 = N1 at *
  clear hN1
  cases hn : t.norm with
  | none =>
    unfold SortOut at KS
    rw [hn] at KS
    have HNE := Lib.hid (normE_none hn)
    have HNT := Lib.hid (normT_none hn)
    clear hn hsz
    go_wp2_with fail
    refine KS.out.mono ?_
    rintro e w3 ⟨⟨s1, t1, u1, s2, t2, u2, s3, t3, u3⟩, rfl, hB, hT3, hN3⟩
    simp only
    have hS9 : Since W2 (w3.alloc (.cells #[.slice s1 t1 u1, .slice s2 t2 u2, .slice s3 t3 u3] 27)) := Since.alloc hB.out _
    have HFI := Lib.hid (norm_no HSZ.out.1 (HBS.out _ hS9) HNE.out HNT.out)
    obtain ⟨z0, z1, z2, zf0, zf1, zf2, -⟩ := (HR.out.keep hS9).open3
    unfold put3 at HFI
    clear hS9 hT3 hN3 p0 p1 p2
    go_wp2
    exact bodyPost_ret (v := .tuple #[.agg #[.slice none 0 0, .slice none 0 0, .slice none 0 0], .int .i64 8]) (by simp [results, Tryz.results6, go_sem, z0, z1, z2]) rfl HFI.out
  | some u =>
    obtain ⟨f1, -, f3, -⟩ := Th.norm_facts _ _ hn
    have HN := Lib.hid hn
    unfold SortOut at KS
    rw [hn] at KS
    have KV := Lib.hid fun (a b c : Value) W h => tvalid_any u (by omega) (f3 HWF.out) a b c W h
    have hE := normE_some hn
    have hT0 := normT_some hn
    have hT1 := normT_bad hn
    have HY := Lib.hid fun (w : World) (r : Tr) (h1 : W.heap.size ≤ N1) (h2 : N1 < W2.heap.size) hB hv hT => norm_yes (t := t) (u := u) (W := W) (w := w) (N1 := N1) (B := W2.heap.size) (r := r) h1 h2 hB hn hv hT
    have HT0 := Lib.hid hT0
    have HT1 := Lib.hid hT1
    have HE := Lib.hid hE
    generalize validT u = V at *
    clear hn hsz f1 f3 hE hT0 hT1 HN HWF
    go_wp2_with fail
    refine KS.out.mono ?_
    rintro e w3 ⟨⟨s1, t1, u1, s2, t2, u2, s3, t3, u3⟩, rfl, hB, hT3, hN3⟩
    simp only
    obtain ⟨w4, hw4⟩ : ∃ w4, w4 = w3.alloc (.cells #[.slice s1 t1 u1, .slice s2 t2 u2, .slice s3 t3 u3] 27) := ⟨_, rfl⟩
    have hSa : Since w3 w4 := by rw [hw4]; exact Since.alloc (Since.refl _) _
    have hS4 : Since W2 w4 := Since.step hB.out hSa
    have hX4 : BoxL w3.heap.size [.slice s1 t1 u1, .slice s2 t2 u2, .slice s3 t3 u3] w4 := by rw [hw4]; exact BoxL.made _ _ _
    have hT4 : TSr (fun k => (False ∨ W2.heap.size ≤ k) ∧ k < w4.heap.size) w4 u ⟨s1, t1, u1, s2, t2, u2, s3, t3, u3⟩ := TS.keep (S' := fun k => False ∨ W2.heap.size ≤ k) ⟨since_size hSa, fun b _ hl => hSa.block b hl⟩ (fun b _ hb => hb.1) u (hT3.out u rfl)
    have KV4 := Lib.hid (KV.out _ _ _ w4 (TS.tat (fun _ h => h.2) u hT4))
    simp only at KV4
    obtain ⟨o0, o1, o2, -⟩ := hX4.open3
    have HX4 := Lib.hid hX4
    have HT4 := Lib.hid hT4
    have HS4 := Lib.hid hS4
    clear hT3 hN3 p0 p1 p2 hSa hS4 hX4 hT4 KV hB
    go_upto_region 2 with (fail)
    rw [← hw4]
    generalize w3.heap.size = N4 at *
    clear hw4
    go_wp2_with fail
    refine KV4.out.mono ?_
    rintro e w5 ⟨rfl, hB5⟩
    have hS5 : Since W2 w5 := Since.step HS4.out hB5
    have hX5 := HX4.out.keep hB5
    have hT5 : TSr (fun k => (False ∨ W2.heap.size ≤ k) ∧ k < w5.heap.size) w5 u ⟨s1, t1, u1, s2, t2, u2, s3, t3, u3⟩ := TS.keep (S' := fun k => False ∨ W2.heap.size ≤ k) ⟨since_size hB5, fun b _ hl => Below.block hB5 b hl⟩ (fun b _ hb => hb.1) u HT4.out
    obtain ⟨z0, z1, z2, zf0, zf1, zf2, -⟩ := (HR.out.keep hS5).open3
    clear o0 o1 o2
    obtain ⟨o0, o1, o2, -⟩ := hX5.open3
    by_cases hv : V = 0
    · have HFI := Lib.hid (HY.out w5 ⟨s1, t1, u1, s2, t2, u2, s3, t3, u3⟩ HSZ.out.1 HSZ.out.2 (HBS.out _ hS5) hv hT5)
      subst hv
      unfold put3 at HFI
      clear hS5 hX5 hT5 HT4 HX4 hB5
      go_wp2
      exact bodyPost_ret (v := .tuple #[.agg #[.slice s1 t1 u1, .slice s2 t2 u2, .slice s3 t3 u3], .int .i64 0]) (by simp [results, Tryz.results6, go_sem, z0, z1, z2]) rfl HFI.out
    · have HFI := Lib.hid (norm_no HSZ.out.1 (HBS.out _ hS5) HE.out (HT1.out hv))
      have hv2 : (V != 0) = true := bne_iff_ne.2 hv
      unfold put3 at HFI
      clear hS5 hX5 hT5 HT4 HX4 hB5 hv
      go_wp2
      exact bodyPost_ret (v := .tuple #[.agg #[.slice none 0 0, .slice none 0 0, .slice none 0 0], .int .i64 V]) (by simp [results, Tryz.results6, go_sem, z0, z1, z2]) rfl HFI.out

end Go.Proofs.YtelhpndlejommaaGreat

