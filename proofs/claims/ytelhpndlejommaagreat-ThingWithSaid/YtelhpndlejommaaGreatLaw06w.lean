/- The law ThingWith. -/
import Derived.Test.YtelhpndlejommaaGreatOaOe
import Derived.Test.YtelhpndlejommaaGreatZe
namespace Go.Proofs.YtelhpndlejommaaGreat
open Go.RowKit Go.Shelf

theorem norms_all : ∀ (l : List Th), (∀ u ∈ l, u.norm = some u) → Th.norms l = some l
  | [], _ => by rw [Th.norms]
  | u :: l, h => by
    rw [Th.norms, h u (List.mem_cons_self ..), norms_all l fun v hv => h v (List.mem_cons_of_mem _ hv)]
    rfl

theorem self_parts {u : Th} (h : u.norm = some u) : ascI u.cs = u.cs ∧ valsL u.vs [] = some u.vs ∧ (∀ q ∈ u.ps, q.norm = some q) ∧ u.ps.Pairwise fun x y => Th.cmp x y ≤ 0 := by
  cases u with
  | mk cs vs ps =>
    rw [Th.norm] at h
    obtain ⟨vl, hv, h⟩ := Option.bind_eq_some_iff.1 h
    obtain ⟨ql, hq, h⟩ := Option.map_eq_some_iff.1 h
    injection h with h1 h2 h3
    subst h2
    refine ⟨h1, hv, fun q hq2 => ?_, ?_⟩
    · have hq3 : q ∈ partsL ql := by rw [h3]; exact hq2
      exact (Th.norms_facts _ _ hq).2.2.2 q ((partsL_perm ql).mem_iff.1 hq3)
    · show ps.Pairwise _
      rw [← h3]
      exact partsL_asc ql

theorem wth_norm {u v : Th} (hu : u.norm = some u) (hv : v.norm = some v) : (wth u v).norm = some (wth u v) := by
  obtain ⟨h1, h2, h3, h4⟩ := self_parts hu
  have hn : Th.norms (wth u v).ps = some (wth u v).ps := norms_all _ fun q hq => by
    rcases List.mem_cons.1 ((wth_perm u v).mem_iff.1 hq) with e | e
    · rw [e]; exact hv
    · exact h3 q e
  have hs : partsL (wth u v).ps = (wth u v).ps := partsL_self (partL_asc v u.ps h4)
  have := norm_of (t := wth u v) (vl := u.vs) (ql := (wth u v).ps) h2 hn
  rw [this, hs]
  show some (Th.mk (ascI u.cs) u.vs (partL v u.ps)) = some (Th.mk u.cs u.vs (partL v u.ps))
  rw [h1]

theorem nil_ok : CmpOk (.mk [] [] []) ∧ (Th.mk [] [] []).wf ∧ (Th.mk [] [] []).wt ≤ 50000 := ⟨⟨wf_nil, by rw [Th.size_one]; decide⟩, wf_nil, by rw [Th.wt_eq]; show 3 + 0 + 3 * 0 + 0 ≤ 50000; decide⟩

theorem norm_law2 (t : Th) (hwf : t.wf) (hwt : t.wt ≤ 50000) : CmpOk (normT t) ∧ (normT t).wf ∧ (normT t).wt ≤ 50000 ∧ (normE t = 0 → (normT t).norm = some (normT t)) := by
  cases hn : t.norm with
  | none =>
    rw [normT_none hn, normE_none hn]
    exact ⟨nil_ok.1, nil_ok.2.1, nil_ok.2.2, fun h => by cases h⟩
  | some u =>
    obtain ⟨f1, f2, f3, f4⟩ := Th.norm_facts _ _ hn
    have hs := Th.size_wt t
    rw [normE_some hn]
    by_cases hv : validT u = 0
    · rw [normT_some hn hv]
      exact ⟨⟨f3 hwf, by omega⟩, f3 hwf, by omega, fun _ => f4⟩
    · rw [normT_bad hn hv]
      exact ⟨nil_ok.1, nil_ok.2.1, nil_ok.2.2, fun h => absurd h hv⟩

theorem with_law (t p : Th) (hwf : t.wf) (hwt : t.wt ≤ 50000) (pwf : p.wf) (pwt : p.wt ≤ 50000) : CmpOk (withT t p) ∧ (withT t p).wf ∧ (withT t p).wt ≤ 100000 ∧ (withE t p = 0 → (withT t p).size = t.size + p.size ∧ (t.norm = some t → p.norm = some p → normE (withT t p) = 0 ∧ normT (withT t p) = withT t p)) := by
  have hs := Th.size_wt t
  have hq := Th.size_wt p
  by_cases h : withE t p = 0
  · have h1 : validT t = 0 := by
      by_cases h1 : validT t = 0
      · exact h1
      · rw [withE_1 h1] at h; exact h
    have h2 : validT p = 0 := by
      by_cases h2 : validT p = 0
      · exact h2
      · rw [withE_2 h1 h2] at h; exact h
    have h3 := h
    rw [withE_3 h1 h2] at h3
    rw [withT_yes h1 h2 h3]
    refine ⟨⟨wth_wf hwf pwf, by rw [wth_size]; omega⟩, wth_wf hwf pwf, by rw [wth_wt]; omega, fun _ => ⟨wth_size t p, fun hu hv => ?_⟩⟩
    have hn := wth_norm hu hv
    exact ⟨by rw [normE_some hn]; exact h3, normT_some hn h3⟩
  · rw [withT_no h]
    exact ⟨nil_ok.1, nil_ok.2.1, Nat.le_trans nil_ok.2.2 (by decide), fun e => absurd e h⟩

/-- A thing made by With, with its error. -/
def CutM (W0 : World) (n : Th) (E : Int) (s1 s2 : Value) (wx : World) : Prop :=
  ∃ (N : Nat) (r : Tr), s1 = .pointer (some ⟨N, 0, none⟩) ∧ s2 = .int .i64 E ∧ Hid (BoxL N [.slice r.a1 r.n1 r.c1, .slice r.a2 r.n2 r.c2, .slice r.a3 r.n3 r.c3] wx) ∧ Hid (TAt wx.heap.size wx n (.slice r.a1 r.n1 r.c1) (.slice r.a2 r.n2 r.c2) (.slice r.a3 r.n3 r.c3)) ∧ Hid (Since W0 wx)

theorem cutM_A {P : Nat → Prop} {W0 v1 y : World} {n : Th} {E : Int} {r : Tr} (h0 : Since W0 v1) (hT : TSr (fun k => P k ∧ k < v1.heap.size) v1 n r) (hX : BoxL v1.heap.size [.slice none 0 0, .slice none 0 0, .slice none 0 0] y) (hp : Since v1 y) :
    CutM W0 n E (.pointer (some ⟨v1.heap.size, 0, none⟩)) (.int .i64 E) (put3 y v1.heap.size (.slice r.a1 r.n1 r.c1) (.slice r.a2 r.n2 r.c2) (.slice r.a3 r.n3 r.c3)) :=
  ⟨_, r, rfl, rfl, Lib.hid (box3_set hX), Lib.hid ((TAt.low (put3_below hp (Nat.le_refl _) _ _ _) n (TS.tat (fun _ h => h.2) n hT)).mono (by rw [put3_size]; exact since_size hp) n), Lib.hid (put3_below (Since.step h0 hp) (since_size h0) _ _ _)⟩

theorem cutM_B {W0 y v5 : World} {n : Th} {E : Int} {r : Tr} {N : Nat} (h0 : W0.heap.size ≤ N) (hN : N < y.heap.size) (hT : TSr (fun k => ((k < W0.heap.size ∧ k < y.heap.size) ∨ y.heap.size ≤ k) ∧ k < v5.heap.size) v5 n r) (hX : BoxL N [.slice none 0 0, .slice none 0 0, .slice none 0 0] v5) (h5 : Since W0 v5) :
    CutM W0 n E (.pointer (some ⟨N, 0, none⟩)) (.int .i64 E) (put3 v5 N (.slice r.a1 r.n1 r.c1) (.slice r.a2 r.n2 r.c2) (.slice r.a3 r.n3 r.c3)) :=
  ⟨_, r, rfl, rfl, Lib.hid (box3_set hX), Lib.hid (TS.tat (fun _ h => h.2) n (TS.keep (put3_keep v5 N _ _ _ fun k hk => by rcases hk.1 with h | h <;> omega) (S' := fun _ => True) (fun _ _ _ => trivial) n hT)), Lib.hid (put3_below h5 h0 _ _ _)⟩

set_option maxHeartbeats 8000000 in
set_option maxRecDepth 100000 in
theorem law_with (a0 : Option Addr) (len0 cap0 : Nat) (z0 : List Int) (a1 : Option Addr) (len1 cap1 : Nat) (z1 : List Int) (a2 a3 a4 : Int) (w : World) (w0 : Came .i64 w a0 len0 cap0 z0) (w1 : Came .i64 w a1 len1 cap1 z1) (w2 : (Lit.int .i64 a2).wf = true) (w3 : (Lit.int .i64 a3).wf = true) (w4 : (Lit.int .i64 a4).wf = true) :
    Calls Tryz.prog 4 #[.slice a0 len0 cap0, .slice a1 len1 cap1, .int .i64 a2, .int .i64 a3, .int .i64 a4] w fun e w' => e = .returned (.bool true) ∧ Below w.heap.size w w' := by
  have K0 := Lib.hid (things_any _ _ _ _ a2 a3 a4 w w0.els w1.els (fun z hz => w0.wf z (List.mem_of_mem_take hz)) (fun z hz => w1.wf z (List.mem_of_mem_take hz)) (i64_of_wf w2) (i64_of_wf w3) (i64_of_wf w4))
  clear w0 w1 w2 w3 w4
  go_enter Tryz.func4, Tryz.ntmps4
  go_wp2_with fail
  refine K0.out.mono ?_
  rintro e W1 ⟨as1, ns, cs1, rs, ts, rfl, hn4, hlen, hAT, hG, hB1⟩
  subst hn4
  clear K0
  have HS0 : Hid (Since W1 W1) := Lib.hid (Since.refl _)
  go_wp2
  go_loopw [12] (fun x wr => ∃ k : Nat, k ≤ 4 ∧ x = .int .i64 k ∧ Hid (Since W1 wr)) (fun x _ => 4 - (intOf x).toNat)
  case atStart => exact ⟨0, by omega, rfl, HS0⟩
  case round =>
    clear HS0
    obtain ⟨i, hi, rfl, hS⟩ := hrel
    rename World => wo
    have i8 : IntKind.i64.wrap ((i : Int) + 1) = (i : Int) + 1 := IntWalk.i64_in _ (by omega)
    by_cases hlt : i < 4
    · have i4 : (i : Int) < 4 := by omega
      obtain ⟨g, ⟨b1, m1, d1, b2, m2, d2, b3, m3, d3⟩, t, rfl, hcap, hr, ht, p0, p1, p2, hT, hg⟩ := (hAT.out.below hS.out).get hlt
      simp only at p0 p1 p2 hT
      have HGT := Lib.hid (hG.out t (List.mem_of_getElem? ht))
      have hgk := HGT.out
      have hwt : t.wt ≤ 100000 := by have := hgk.2; omega
      obtain ⟨n1, n2, n3, n4⟩ := norm_law2 t hgk.1 hgk.2
      have KA := Lib.hid fun W (h : Since wo W) => tnormal_any t hgk.1 hwt _ _ _ W (TAt.below h hT)
      unfold NormOut at KA
      have HU := Lib.hid (⟨n1, n2, n3⟩ : CmpOk (normT t) ∧ (normT t).wf ∧ (normT t).wt ≤ 50000)
      have HUN := Lib.hid n4
      have HT := Lib.hid hT
      have HTZ := Lib.hid (show t.size ≤ 1000000 by have := hgk.size; omega)
      generalize normT t = u at *
      generalize normE t = Et at *
      clear hr ht hT hgk hwt n1 n2 n3 n4 hg
      have HP0 := Lib.hid p0
      have HP1 := Lib.hid p1
      have HP2 := Lib.hid p2
      go_wp2_with fail
      refine (KA.out wo (Since.refl _)).mono ?_
      rintro e v1 ⟨⟨s1, t1, u1, s2, t2, u2, s3, t3, u3⟩, rfl, hT1, hBa⟩
      simp only
      obtain ⟨V1, hV⟩ : ∃ V, V = World.alloc v1 (.cells #[.slice s1 t1 u1, .slice s2 t2 u2, .slice s3 t3 u3] 27) := ⟨_, rfl⟩
      have hSa : Since v1 V1 := by rw [hV]; exact Since.alloc (Since.refl _) _
      have HXO : Hid (BoxL v1.heap.size [.slice s1 t1 u1, .slice s2 t2 u2, .slice s3 t3 u3] V1) := Lib.hid (by rw [hV]; exact BoxL.made v1 _ _)
      have HTO : Hid (TAt V1.heap.size V1 u (.slice s1 t1 u1) (.slice s2 t2 u2) (.slice s3 t3 u3)) := Lib.hid (TAt.below hSa (TS.tat (fun _ h => h.2) u hT1.out))
      have HS1 := Lib.hid (Since.step hBa.out hSa)
      have HSV : Hid (Since V1 V1) := Lib.hid (Since.refl _)
      clear hT1 hBa hSa p0 p1 p2
      go_upto_region 6 with (fail)
      rw [← hV]
      generalize v1.heap.size = MO at *
      clear hV
      go_wp2
      go_loopw [15] (fun x wr => ∃ k : Nat, k ≤ 4 ∧ x = .int .i64 k ∧ Hid (Since V1 wr)) (fun x _ => 4 - (intOf x).toNat)
      case atStart => exact ⟨0, by omega, rfl, HSV⟩
      case round =>
        clear HSV
        obtain ⟨j, hj, rfl, hSj⟩ := hrel
        rename World => wk
        have HSK := Lib.hid (Since.step HS1.out hSj.out)
        have j8 : IntKind.i64.wrap ((j : Int) + 1) = (j : Int) + 1 := IntWalk.i64_in _ (by omega)
        by_cases hlt2 : j < 4
        · have j4 : (j : Int) < 4 := by omega
          obtain ⟨g2, ⟨e1, f1, k1, e2, f2, k2, e3, f3, k3⟩, p, hg2, -, hr, ht, y0, y1, y2, hTp, -⟩ := (hAT.out.below (Since.step hS.out HSK.out)).get hlt2
          cases hg2
          simp only at y0 y1 y2 hTp
          have hgp := hG.out p (List.mem_of_getElem? ht)
          have hgt := HGT.out
          have hTt := TAt.below HSK.out HT.out
          have hptw : p.wt ≤ 100000 := by have := hgp.2; omega
          obtain ⟨n1, n2, n3, n4⟩ := norm_law2 p hgp.1 hgp.2
          obtain ⟨o1, o2, o3, o4⟩ := with_law t p hgt.1 hgt.2 hgp.1 hgp.2
          obtain ⟨q1, q2, q3, q4⟩ := with_law u (normT p) HU.out.2.1 HU.out.2.2 n2 n3
          have KW := Lib.hid fun W (h : Since wk W) => twith_any (fun k => k < wk.heap.size ∧ k < W.heap.size) t p hgt.1 hgt.2 hgp.1 hgp.2 _ _ _ _ _ _ W (TAt.below h hTt) (TAt.below h hTp)
          have KRA := Lib.hid fun (wq : World) (hq : Since wk wq) W (h : Since wq W) => rwith_any (fun k => k < wq.heap.size ∧ k < W.heap.size) t p hgt.1 hgt.2 hgp.1 hgp.2 _ _ _ _ _ _ W (fun _ h => h.2) (TS.keep (S' := (· < wq.heap.size)) ⟨since_size h, fun b _ hl => h.block b hl⟩ (fun _ h _ => h) t (TAt.ts t (TAt.below hq hTt))) (TS.keep (S' := (· < wq.heap.size)) ⟨since_size h, fun b _ hl => h.block b hl⟩ (fun _ h _ => h) p (TAt.ts p (TAt.below hq hTp)))
          have KN := Lib.hid fun W (h : Since wk W) => tnormal_any p hgp.1 hptw _ _ _ W (TAt.below h hTp)
          have KU := Lib.hid fun (a b c a' b' c' : Value) W h1 h2 => twith_any (· < W.heap.size) u (normT p) HU.out.2.1 HU.out.2.2 n2 n3 a b c a' b' c' W h1 h2
          have KD := Lib.hid fun (a b c : Value) W h => tnormal_any (withT u (normT p)) q2 q3 a b c W h
          have KS := Lib.hid fun (a b c a' b' c' : Value) W h1 h2 => rsame_any (withT t p) (withT t p) o1 o1 a b c a' b' c' W h1 h2
          have KT := Lib.hid fun (a b c a' b' c' : Value) W h1 h2 => rsame_any (withT u (normT p)) (withT u (normT p)) q1 q1 a b c a' b' c' W h1 h2
          simp only [decide_true] at KS KT
          have KZ := Lib.hid fun (a b c : Value) W h => tsize_any (withT t p).size (withT t p) (Nat.le_refl _) o1.2 a b c W h
          have KZt := Lib.hid fun W (h : Since wk W) => tsize_any t.size t (Nat.le_refl _) HTZ.out _ _ _ W (TAt.below h hTt)
          have KZp := Lib.hid fun W (h : Since wk W) => tsize_any p.size p (Nat.le_refl _) (by have := hgp.size; omega) _ _ _ W (TAt.below h hTp)
          unfold WithOut at KW KRA KU
          unfold NormOut at KN KD
          have HSZ := Lib.hid fun (h : withE t p = 0) => (o4 h).1
          have HNN := Lib.hid fun (h1 : Et = 0) (h2 : normE p = 0) (h : withE u (normT p) = 0) => (q4 h).2 (HUN.out h1) (n4 h2)
          have hz1 : t.size ≤ 1000000 := HTZ.out
          have hz2 : p.size ≤ 1000000 := by have := hgp.size; omega
          have hwz : IntKind.i64.wrap ((t.size : Int) + (p.size : Int)) = (t.size : Int) + (p.size : Int) := IntWalk.i64_in _ (by omega)
          generalize normT (withT u (normT p)) = nd at *
          generalize normE (withT u (normT p)) = E3 at *
          generalize withT u (normT p) = d at *
          generalize withE u (normT p) = E2 at *
          generalize normT p = v at *
          generalize normE p = Ep at *
          generalize hsn : (withT t p).size = sn at *
          generalize withT t p = nn at *
          generalize withE t p = E at *
          generalize t.size = st at *
          generalize p.size = sp at *
          have x0 := Since.cell HSK.out HP0.out
          have x1 := Since.cell HSK.out HP1.out
          have x2 := Since.cell HSK.out HP2.out
          have HY0 := Lib.hid y0
          have HY1 := Lib.hid y1
          have HY2 := Lib.hid y2
          clear hr ht hTp hgp hgt hTt hptw n1 n2 n3 n4 o1 o2 o3 o4 q1 q2 q3 q4 hsn hz1 hz2
          go_upto_region 9 with (fail)
          go_cut [16, 17] (fun s1 s2 wx => CutM wk nn E s1 s2 wx)
          case first =>
            refine wp_region_noPanic ?_
            refine wp_region_held_drew (S := fun w' => w'.cell? ⟨g, i * 3, none⟩ = some (.slice b1 m1 d1) ∧ w'.cell? ⟨g, i * 3 + 1, none⟩ = some (.slice b2 m2 d2) ∧ w'.cell? ⟨g, i * 3 + 2, none⟩ = some (.slice b3 m3 d3) ∧ w'.cell? ⟨g, j * 3, none⟩ = some (.slice e1 f1 k1) ∧ w'.cell? ⟨g, j * 3 + 1, none⟩ = some (.slice e2 f2 k2) ∧ w'.cell? ⟨g, j * 3 + 2, none⟩ = some (.slice e3 f3 k3) ∧ Since wk w') (by kernel_rfl) (by (with_reducible refine ⟨Since.cell ?_ x0, Since.cell ?_ x1, Since.cell ?_ x2, Since.cell ?_ y0, Since.cell ?_ y1, Since.cell ?_ y2, ?_⟩) <;> (repeat (first | with_reducible assumption | with_reducible exact Since.refl _ | with_reducible refine Since.alloc ?_ _ | with_reducible refine Since.drew ?_))) (fun hHeld => ?_)
            refine wpAnyH_take (i := 0) (oi := ⟨some 55, Op.move (Operand.tmp 11), 23, _, _, none⟩) (v := ?_) rfl (by kernel_rfl) (by kernel_rfl) (by kernel_rfl) (fun _ _ _ h => h) (Or.inl ⟨by rfl, ?_⟩) (by assumption) ?_
            rotate_left 1
            · (intro w hSw; (try dsimp only at hSw); go_simp; first | done | with_reducible rfl)
            try simp only [Act.put, List.setIfInBounds_toArray, List.set_cons_zero, List.set_cons_succ]
            refine wpAnyH_take (i := 1) (oi := ⟨some 56, Op.move (Operand.tmp 12), 3, _, _, none⟩) (v := ?_) rfl (by kernel_rfl) (by kernel_rfl) (by kernel_rfl) (fun _ _ _ h => h) (Or.inl ⟨by rfl, ?_⟩) (by assumption) ?_
            rotate_left 1
            · (intro w hSw; (try dsimp only at hSw); go_simp; first | done | with_reducible rfl)
            try simp only [Act.put, List.setIfInBounds_toArray, List.set_cons_zero, List.set_cons_succ]
            refine wpAnyH_take (i := 2) (oi := ⟨some 57, Op.indexAddr 23 (Operand.tmp 55) (Operand.tmp 56), 0, _, _, none⟩) (v := ?_) rfl (by kernel_rfl) (by kernel_rfl) (by kernel_rfl) (fun _ _ _ h => h) (Or.inl ⟨by rfl, ?_⟩) (by assumption) ?_
            rotate_left 1
            · (intro w hSw; (try dsimp only at hSw); go_simp; first | done | with_reducible rfl)
            try simp only [Act.put, List.setIfInBounds_toArray, List.set_cons_zero, List.set_cons_succ]
            refine wpAnyH_take (i := 3) (oi := ⟨some 58, Op.load 27 (Operand.tmp 57), 27, _, _, none⟩) (v := ?_) rfl (by kernel_rfl) (by kernel_rfl) (by kernel_rfl) (fun _ _ _ h => h) (Or.inl ⟨by rfl, ?_⟩) (by assumption) ?_
            rotate_left 1
            · (intro w hSw; (try dsimp only at hSw); go_simp; first | done | with_reducible rfl)
            try simp only [Act.put, List.setIfInBounds_toArray, List.set_cons_zero, List.set_cons_succ]
            refine wpAnyH_take (i := 4) (oi := ⟨some 59, Op.move (Operand.tmp 11), 23, _, _, none⟩) (v := ?_) rfl (by kernel_rfl) (by kernel_rfl) (by kernel_rfl) (fun _ _ _ h => h) (Or.inl ⟨by rfl, ?_⟩) (by assumption) ?_
            rotate_left 1
            · (intro w hSw; (try dsimp only at hSw); go_simp; first | done | with_reducible rfl)
            try simp only [Act.put, List.setIfInBounds_toArray, List.set_cons_zero, List.set_cons_succ]
            refine wpAnyH_take (i := 5) (oi := ⟨some 60, Op.move (Operand.tmp 15), 3, _, _, none⟩) (v := ?_) rfl (by kernel_rfl) (by kernel_rfl) (by kernel_rfl) (fun _ _ _ h => h) (Or.inl ⟨by rfl, ?_⟩) (by assumption) ?_
            rotate_left 1
            · (intro w hSw; (try dsimp only at hSw); go_simp; first | done | with_reducible rfl)
            try simp only [Act.put, List.setIfInBounds_toArray, List.set_cons_zero, List.set_cons_succ]
            refine wpAnyH_take (i := 6) (oi := ⟨some 61, Op.indexAddr 23 (Operand.tmp 59) (Operand.tmp 60), 0, _, _, none⟩) (v := ?_) rfl (by kernel_rfl) (by kernel_rfl) (by kernel_rfl) (fun _ _ _ h => h) (Or.inl ⟨by rfl, ?_⟩) (by assumption) ?_
            rotate_left 1
            · (intro w hSw; (try dsimp only at hSw); go_simp; first | done | with_reducible rfl)
            try simp only [Act.put, List.setIfInBounds_toArray, List.set_cons_zero, List.set_cons_succ]
            refine wpAnyH_take (i := 7) (oi := ⟨some 62, Op.load 27 (Operand.tmp 61), 27, _, _, none⟩) (v := ?_) rfl (by kernel_rfl) (by kernel_rfl) (by kernel_rfl) (fun _ _ _ h => h) (Or.inl ⟨by rfl, ?_⟩) (by assumption) ?_
            rotate_left 1
            · (intro w hSw; (try dsimp only at hSw); go_simp; first | done | with_reducible rfl)
            try simp only [Act.put, List.setIfInBounds_toArray, List.set_cons_zero, List.set_cons_succ]
            refine wpAnyH_ready (rs := [8, 12]) (by kernel_rfl) (by simp) ?_
            refine AllReadyH.cons (o := { dst := some 63, op := Op.call { callee := Callee.value (Operand.func 14), args := #[Operand.tmp 58, Operand.tmp 62], argTypes := #[27, 27] }, type := 29, pos := _, after := #[{ on := 3, ground := Ground.data }, { on := 7, ground := Ground.data }], guard := none }) rfl (fun K hK => ?_) (AllReadyH.cons (o := ⟨some 16, Op.alloc 27, 0, _, _, none⟩) rfl (fun K hK => ?_) AllReadyH.nil)
            · go_simp
              refine (KW.out _ (by (repeat (first | with_reducible assumption | with_reducible exact Since.refl _ | with_reducible refine Since.alloc ?_ _ | with_reducible refine Since.drew ?_)))).mono ?_
              rintro e v1 ⟨⟨s1, t1, u1, s2, t2, u2, s3, t3, u3⟩, rfl, hTv, hBv⟩
              try simp only
              have hq : Since wk v1 := by (with_reducible refine Since.step ?_ hBv.out); (repeat (first | with_reducible assumption | with_reducible exact Since.refl _ | with_reducible refine Since.alloc ?_ _ | with_reducible refine Since.drew ?_))
              have hT9 : TSr (fun k => True ∧ k < v1.heap.size) v1 nn ⟨s1, t1, u1, s2, t2, u2, s3, t3, u3⟩ := TS.keep (w := v1) (W := v1) ⟨Nat.le_refl _, fun _ _ _ => rfl⟩ (S' := fun _ => True) (fun _ _ _ => trivial) _ hTv.out
              clear hTv hBv
              try go_wp2_with fail
              refine hK.out _ _ ?_ (fun hHeld => ?_)
              · (with_reducible refine ⟨Since.cell ?_ x0, Since.cell ?_ x1, Since.cell ?_ x2, Since.cell ?_ y0, Since.cell ?_ y1, Since.cell ?_ y2, ?_⟩) <;> (repeat (first | with_reducible assumption | with_reducible exact Since.refl _ | with_reducible refine Since.alloc ?_ _ | with_reducible refine Since.drew ?_))
              clear hK K
              try simp only [Act.put, List.setIfInBounds_toArray, List.set_cons_zero, List.set_cons_succ]
              refine wpAnyH_take (i := 9) (oi := { dst := some 54, op := Op.move (Operand.tmp 63), type := 29, pos := _, after := #[{ on := 8, ground := Ground.data }], guard := none }) (v := ?_) rfl (by kernel_rfl) (by kernel_rfl) (by kernel_rfl) (fun _ _ _ h => h) (Or.inl ⟨by rfl, ?_⟩) (by assumption) ?_
              rotate_left 1
              · (intro w hSw; (try dsimp only at hSw); go_simp; first | done | with_reducible rfl)
              try simp only [Act.put, List.setIfInBounds_toArray, List.set_cons_zero, List.set_cons_succ]
              refine wpAnyH_take (i := 10) (oi := ⟨some 64, Op.extract (Operand.tmp 54) 0, 27, _, _, none⟩) (v := ?_) rfl (by kernel_rfl) (by kernel_rfl) (by kernel_rfl) (fun _ _ _ h => h) (Or.inl ⟨by rfl, ?_⟩) (by assumption) ?_
              rotate_left 1
              · (intro w hSw; (try dsimp only at hSw); go_simp; first | done | with_reducible rfl)
              try simp only [Act.put, List.setIfInBounds_toArray, List.set_cons_zero, List.set_cons_succ]
              refine wpAnyH_take (i := 11) (oi := ⟨some 65, Op.extract (Operand.tmp 54) 1, 28, _, _, none⟩) (v := ?_) rfl (by kernel_rfl) (by kernel_rfl) (by kernel_rfl) (fun _ _ _ h => h) (Or.inl ⟨by rfl, ?_⟩) (by assumption) ?_
              rotate_left 1
              · (intro w hSw; (try dsimp only at hSw); go_simp; first | done | with_reducible rfl)
              try simp only [Act.put, List.setIfInBounds_toArray, List.set_cons_zero, List.set_cons_succ]
              refine wpAnyH_ready (rs := [12]) (by kernel_rfl) (by simp) ?_
              refine AllReadyH.cons (o := ⟨some 16, Op.alloc 27, 0, _, _, none⟩) rfl (fun K hK => ?_) AllReadyH.nil
              go_simp
              try go_wp2_with fail
              refine hK.out _ _ ?_ (fun hHeld => ?_)
              · (with_reducible refine ⟨Since.cell ?_ x0, Since.cell ?_ x1, Since.cell ?_ x2, Since.cell ?_ y0, Since.cell ?_ y1, Since.cell ?_ y2, ?_⟩) <;> (repeat (first | with_reducible assumption | with_reducible exact Since.refl _ | with_reducible refine Since.alloc ?_ _ | with_reducible refine Since.drew ?_))
              clear hK K
              try simp only [Act.put, List.setIfInBounds_toArray, List.set_cons_zero, List.set_cons_succ]
              obtain ⟨z, hz⟩ : ∃ v, v = World.alloc v1 (.cells #[.slice none 0 0, .slice none 0 0, .slice none 0 0] 27) := ⟨_, rfl⟩
              obtain ⟨u, hu⟩ : ∃ v, v = World.alloc (World.drew v1) (.cells #[.slice none 0 0, .slice none 0 0, .slice none 0 0] 27) := ⟨_, rfl⟩
              have hzX : BoxL (World.heap v1).size [.slice none 0 0, .slice none 0 0, .slice none 0 0] z ∧ Since v1 z := by rw [hz]; exact ⟨BoxL.made v1 _ _, Since.alloc (Since.refl _) _⟩
              have huX : BoxL (World.heap v1).size [.slice none 0 0, .slice none 0 0, .slice none 0 0] u ∧ Since v1 u := by rw [hu]; exact ⟨BoxL.made (World.drew v1) _ _, Since.alloc (Since.drew (Since.refl _)) _⟩
              first | (rw [← hz]; clear hu huX u; have hX := hzX; clear hzX hz; generalize z = yy at *) | (rw [← hu]; clear hz hzX z; have hX := huX; clear huX hu; generalize u = yy at *)
              have hp := hX.2
              have hX := hX.1
              have hcm := cutM_A (E := E) hq hT9 hX hp
              have hsy : Since wk yy := Since.step hq hp
              have hNL : (World.heap wk).size ≤ (World.heap v1).size := since_size hq
              clear hT9
              unfold put3 at hcm
              generalize (World.heap v1).size = NB at hX hcm hNL ⊢
              obtain ⟨z0, z1, z2, zf0, zf1, zf2, -⟩ := hX.open3
              refine wpAnyH_ready (rs := [13]) (by kernel_rfl) (by simp) ?_
              refine AllReadyH.cons (o := ⟨none, Op.store 27 (Operand.tmp 16) (Operand.tmp 64), 0, _, _, none⟩) rfl (fun K hK => ?_) AllReadyH.nil
              go_simp
              go_wp2_with fail
              have hs9 : Since wk (put3 yy NB (.slice s1 t1 u1) (.slice s2 t2 u2) (.slice s3 t3 u3)) := put3_below hsy hNL _ _ _
              unfold put3 at hs9
              refine hK.out _ _ ?_ (fun hHeld => ?_)
              · (with_reducible refine ⟨Since.cell ?_ x0, Since.cell ?_ x1, Since.cell ?_ x2, Since.cell ?_ y0, Since.cell ?_ y1, Since.cell ?_ y2, ?_⟩) <;> (repeat (first | with_reducible assumption | with_reducible exact Since.refl _ | with_reducible refine Since.alloc ?_ _ | with_reducible refine Since.drew ?_))
              clear hK K
              try simp only [Act.put, List.setIfInBounds_toArray, List.set_cons_zero, List.set_cons_succ]
              refine wpAnyH_take (i := 14) (oi := ⟨some 17, Op.assign (Operand.tmp 65), 28, _, _, none⟩) (v := ?_) rfl (by kernel_rfl) (by kernel_rfl) (by kernel_rfl) (fun _ _ _ h => h) (Or.inl ⟨by rfl, ?_⟩) (by assumption) ?_
              rotate_left 1
              · (intro w hSw; (try dsimp only at hSw); go_simp; first | done | with_reducible rfl)
              try simp only [Act.put, List.setIfInBounds_toArray, List.set_cons_zero, List.set_cons_succ]
              refine wpAnyH_done (by kernel_rfl) ?_ _
              refine NoPanic.normal ?_
              go_wp2_with fail
              go_meet
              exact hcm
            · go_simp
              try go_wp2_with fail
              refine hK.out _ _ ?_ (fun hHeld => ?_)
              · (with_reducible refine ⟨Since.cell ?_ x0, Since.cell ?_ x1, Since.cell ?_ x2, Since.cell ?_ y0, Since.cell ?_ y1, Since.cell ?_ y2, ?_⟩) <;> (repeat (first | with_reducible assumption | with_reducible exact Since.refl _ | with_reducible refine Since.alloc ?_ _ | with_reducible refine Since.drew ?_))
              clear hK K
              try simp only [Act.put, List.setIfInBounds_toArray, List.set_cons_zero, List.set_cons_succ]
              obtain ⟨z, hz⟩ : ∃ v, v = World.alloc wk (.cells #[.slice none 0 0, .slice none 0 0, .slice none 0 0] 27) := ⟨_, rfl⟩
              obtain ⟨u, hu⟩ : ∃ v, v = World.alloc (World.drew wk) (.cells #[.slice none 0 0, .slice none 0 0, .slice none 0 0] 27) := ⟨_, rfl⟩
              have hzX : BoxL (World.heap wk).size [.slice none 0 0, .slice none 0 0, .slice none 0 0] z ∧ Since wk z := by rw [hz]; exact ⟨BoxL.made wk _ _, Since.alloc (Since.refl _) _⟩
              have huX : BoxL (World.heap wk).size [.slice none 0 0, .slice none 0 0, .slice none 0 0] u ∧ Since wk u := by rw [hu]; exact ⟨BoxL.made (World.drew wk) _ _, Since.alloc (Since.drew (Since.refl _)) _⟩
              first | (rw [← hz]; clear hu huX u; have hX := hzX; clear hzX hz; generalize z = yy at *) | (rw [← hu]; clear hz hzX z; have hX := huX; clear huX hu; generalize u = yy at *)
              have hp := hX.2
              have hX := hX.1
              have hNL : (World.heap wk).size ≤ (World.heap wk).size := Nat.le_refl _
              have hNH : (World.heap wk).size < (World.heap yy).size := hX.1
              refine wpAnyH_ready (rs := [8]) (by kernel_rfl) (by simp) ?_
              refine AllReadyH.cons (o := { dst := some 63, op := Op.call { callee := Callee.value (Operand.func 14), args := #[Operand.tmp 58, Operand.tmp 62], argTypes := #[27, 27] }, type := 29, pos := _, after := #[{ on := 3, ground := Ground.data }, { on := 7, ground := Ground.data }], guard := none }) rfl (fun K hK => ?_) AllReadyH.nil
              go_simp
              refine (KW.out _ (by (repeat (first | with_reducible assumption | with_reducible exact Since.refl _ | with_reducible refine Since.alloc ?_ _ | with_reducible refine Since.drew ?_)))).mono ?_
              rintro e v1 ⟨⟨s1, t1, u1, s2, t2, u2, s3, t3, u3⟩, rfl, hTv, hBv⟩
              try simp only
              have hq : Since yy v1 := by (with_reducible refine Since.step ?_ hBv.out); (repeat (first | with_reducible assumption | with_reducible exact Since.refl _ | with_reducible refine Since.alloc ?_ _ | with_reducible refine Since.drew ?_))
              have hs1 : Since wk v1 := Since.step hp hq
              have hX := hX.keep hq
              have hcm := cutM_B (E := E) (N := (World.heap wk).size) (y := yy) hNL hNH hTv.out hX hs1
              clear hTv hBv
              unfold put3 at hcm
              generalize hNN : (World.heap wk).size = NB at hX hcm ⊢
              have hNL : (World.heap wk).size ≤ NB := by rw [hNN]; exact Nat.le_refl _
              clear hNN hNH
              try go_wp2_with fail
              refine hK.out _ _ ?_ (fun hHeld => ?_)
              · (with_reducible refine ⟨Since.cell ?_ x0, Since.cell ?_ x1, Since.cell ?_ x2, Since.cell ?_ y0, Since.cell ?_ y1, Since.cell ?_ y2, ?_⟩) <;> (repeat (first | with_reducible assumption | with_reducible exact Since.refl _ | with_reducible refine Since.alloc ?_ _ | with_reducible refine Since.drew ?_))
              clear hK K
              try simp only [Act.put, List.setIfInBounds_toArray, List.set_cons_zero, List.set_cons_succ]
              refine wpAnyH_take (i := 9) (oi := { dst := some 54, op := Op.move (Operand.tmp 63), type := 29, pos := _, after := #[{ on := 8, ground := Ground.data }], guard := none }) (v := ?_) rfl (by kernel_rfl) (by kernel_rfl) (by kernel_rfl) (fun _ _ _ h => h) (Or.inl ⟨by rfl, ?_⟩) (by assumption) ?_
              rotate_left 1
              · (intro w hSw; (try dsimp only at hSw); go_simp; first | done | with_reducible rfl)
              try simp only [Act.put, List.setIfInBounds_toArray, List.set_cons_zero, List.set_cons_succ]
              refine wpAnyH_take (i := 10) (oi := ⟨some 64, Op.extract (Operand.tmp 54) 0, 27, _, _, none⟩) (v := ?_) rfl (by kernel_rfl) (by kernel_rfl) (by kernel_rfl) (fun _ _ _ h => h) (Or.inl ⟨by rfl, ?_⟩) (by assumption) ?_
              rotate_left 1
              · (intro w hSw; (try dsimp only at hSw); go_simp; first | done | with_reducible rfl)
              try simp only [Act.put, List.setIfInBounds_toArray, List.set_cons_zero, List.set_cons_succ]
              refine wpAnyH_take (i := 11) (oi := ⟨some 65, Op.extract (Operand.tmp 54) 1, 28, _, _, none⟩) (v := ?_) rfl (by kernel_rfl) (by kernel_rfl) (by kernel_rfl) (fun _ _ _ h => h) (Or.inl ⟨by rfl, ?_⟩) (by assumption) ?_
              rotate_left 1
              · (intro w hSw; (try dsimp only at hSw); go_simp; first | done | with_reducible rfl)
              try simp only [Act.put, List.setIfInBounds_toArray, List.set_cons_zero, List.set_cons_succ]
              obtain ⟨z0, z1, z2, zf0, zf1, zf2, -⟩ := hX.open3
              refine wpAnyH_ready (rs := [13]) (by kernel_rfl) (by simp) ?_
              refine AllReadyH.cons (o := ⟨none, Op.store 27 (Operand.tmp 16) (Operand.tmp 64), 0, _, _, none⟩) rfl (fun K hK => ?_) AllReadyH.nil
              go_simp
              go_wp2_with fail
              have hs9 : Since wk (put3 v1 NB (.slice s1 t1 u1) (.slice s2 t2 u2) (.slice s3 t3 u3)) := put3_below hs1 hNL _ _ _
              unfold put3 at hs9
              refine hK.out _ _ ?_ (fun hHeld => ?_)
              · (with_reducible refine ⟨Since.cell ?_ x0, Since.cell ?_ x1, Since.cell ?_ x2, Since.cell ?_ y0, Since.cell ?_ y1, Since.cell ?_ y2, ?_⟩) <;> (repeat (first | with_reducible assumption | with_reducible exact Since.refl _ | with_reducible refine Since.alloc ?_ _ | with_reducible refine Since.drew ?_))
              clear hK K
              try simp only [Act.put, List.setIfInBounds_toArray, List.set_cons_zero, List.set_cons_succ]
              refine wpAnyH_take (i := 14) (oi := ⟨some 17, Op.assign (Operand.tmp 65), 28, _, _, none⟩) (v := ?_) rfl (by kernel_rfl) (by kernel_rfl) (by kernel_rfl) (fun _ _ _ h => h) (Or.inl ⟨by rfl, ?_⟩) (by assumption) ?_
              rotate_left 1
              · (intro w hSw; (try dsimp only at hSw); go_simp; first | done | with_reducible rfl)
              try simp only [Act.put, List.setIfInBounds_toArray, List.set_cons_zero, List.set_cons_succ]
              refine wpAnyH_done (by kernel_rfl) ?_ _
              refine NoPanic.normal ?_
              go_wp2_with fail
              go_meet
              exact hcm
          case rest =>
          obtain ⟨M1, ⟨s4, t4, u4, s5, t5, u5, s6, t6, u6⟩, rfl, rfl, hX1, hT1, hS1⟩ := hcut
          rename World => wk1
          simp only at hX1 hT1
          have KR := Lib.hid fun W (h : Since wk1 W) => KRA.out wk1 hS1.out W h
          have x0 := Since.cell hS1.out x0
          have x1 := Since.cell hS1.out x1
          have x2 := Since.cell hS1.out x2
          have y0 := Since.cell hS1.out y0
          have y1 := Since.cell hS1.out y1
          have y2 := Since.cell hS1.out y2
          clear KW KRA
          go_upto_region 10 with (fail)
          go_cut [18, 19] (fun s1 s2 wx => CutM wk1 nn E s1 s2 wx)
          case first =>
            refine wp_region_noPanic ?_
            refine wp_region_held_drew (S := fun w' => w'.cell? ⟨g, i * 3, none⟩ = some (.slice b1 m1 d1) ∧ w'.cell? ⟨g, i * 3 + 1, none⟩ = some (.slice b2 m2 d2) ∧ w'.cell? ⟨g, i * 3 + 2, none⟩ = some (.slice b3 m3 d3) ∧ w'.cell? ⟨g, j * 3, none⟩ = some (.slice e1 f1 k1) ∧ w'.cell? ⟨g, j * 3 + 1, none⟩ = some (.slice e2 f2 k2) ∧ w'.cell? ⟨g, j * 3 + 2, none⟩ = some (.slice e3 f3 k3) ∧ Since wk1 w') (by kernel_rfl) (by (with_reducible refine ⟨Since.cell ?_ x0, Since.cell ?_ x1, Since.cell ?_ x2, Since.cell ?_ y0, Since.cell ?_ y1, Since.cell ?_ y2, ?_⟩) <;> (repeat (first | with_reducible assumption | with_reducible exact Since.refl _ | with_reducible refine Since.alloc ?_ _ | with_reducible refine Since.drew ?_))) (fun hHeld => ?_)
            refine wpAnyH_take (i := 0) (oi := ⟨some 67, Op.move (Operand.tmp 11), 23, _, _, none⟩) (v := ?_) rfl (by kernel_rfl) (by kernel_rfl) (by kernel_rfl) (fun _ _ _ h => h) (Or.inl ⟨by rfl, ?_⟩) (by assumption) ?_
            rotate_left 1
            · (intro w hSw; (try dsimp only at hSw); go_simp; first | done | with_reducible rfl)
            try simp only [Act.put, List.setIfInBounds_toArray, List.set_cons_zero, List.set_cons_succ]
            refine wpAnyH_take (i := 1) (oi := ⟨some 68, Op.move (Operand.tmp 12), 3, _, _, none⟩) (v := ?_) rfl (by kernel_rfl) (by kernel_rfl) (by kernel_rfl) (fun _ _ _ h => h) (Or.inl ⟨by rfl, ?_⟩) (by assumption) ?_
            rotate_left 1
            · (intro w hSw; (try dsimp only at hSw); go_simp; first | done | with_reducible rfl)
            try simp only [Act.put, List.setIfInBounds_toArray, List.set_cons_zero, List.set_cons_succ]
            refine wpAnyH_take (i := 2) (oi := ⟨some 69, Op.indexAddr 23 (Operand.tmp 67) (Operand.tmp 68), 0, _, _, none⟩) (v := ?_) rfl (by kernel_rfl) (by kernel_rfl) (by kernel_rfl) (fun _ _ _ h => h) (Or.inl ⟨by rfl, ?_⟩) (by assumption) ?_
            rotate_left 1
            · (intro w hSw; (try dsimp only at hSw); go_simp; first | done | with_reducible rfl)
            try simp only [Act.put, List.setIfInBounds_toArray, List.set_cons_zero, List.set_cons_succ]
            refine wpAnyH_take (i := 3) (oi := ⟨some 70, Op.load 27 (Operand.tmp 69), 27, _, _, none⟩) (v := ?_) rfl (by kernel_rfl) (by kernel_rfl) (by kernel_rfl) (fun _ _ _ h => h) (Or.inl ⟨by rfl, ?_⟩) (by assumption) ?_
            rotate_left 1
            · (intro w hSw; (try dsimp only at hSw); go_simp; first | done | with_reducible rfl)
            try simp only [Act.put, List.setIfInBounds_toArray, List.set_cons_zero, List.set_cons_succ]
            refine wpAnyH_take (i := 4) (oi := ⟨some 71, Op.move (Operand.tmp 11), 23, _, _, none⟩) (v := ?_) rfl (by kernel_rfl) (by kernel_rfl) (by kernel_rfl) (fun _ _ _ h => h) (Or.inl ⟨by rfl, ?_⟩) (by assumption) ?_
            rotate_left 1
            · (intro w hSw; (try dsimp only at hSw); go_simp; first | done | with_reducible rfl)
            try simp only [Act.put, List.setIfInBounds_toArray, List.set_cons_zero, List.set_cons_succ]
            refine wpAnyH_take (i := 5) (oi := ⟨some 72, Op.move (Operand.tmp 15), 3, _, _, none⟩) (v := ?_) rfl (by kernel_rfl) (by kernel_rfl) (by kernel_rfl) (fun _ _ _ h => h) (Or.inl ⟨by rfl, ?_⟩) (by assumption) ?_
            rotate_left 1
            · (intro w hSw; (try dsimp only at hSw); go_simp; first | done | with_reducible rfl)
            try simp only [Act.put, List.setIfInBounds_toArray, List.set_cons_zero, List.set_cons_succ]
            refine wpAnyH_take (i := 6) (oi := ⟨some 73, Op.indexAddr 23 (Operand.tmp 71) (Operand.tmp 72), 0, _, _, none⟩) (v := ?_) rfl (by kernel_rfl) (by kernel_rfl) (by kernel_rfl) (fun _ _ _ h => h) (Or.inl ⟨by rfl, ?_⟩) (by assumption) ?_
            rotate_left 1
            · (intro w hSw; (try dsimp only at hSw); go_simp; first | done | with_reducible rfl)
            try simp only [Act.put, List.setIfInBounds_toArray, List.set_cons_zero, List.set_cons_succ]
            refine wpAnyH_take (i := 7) (oi := ⟨some 74, Op.load 27 (Operand.tmp 73), 27, _, _, none⟩) (v := ?_) rfl (by kernel_rfl) (by kernel_rfl) (by kernel_rfl) (fun _ _ _ h => h) (Or.inl ⟨by rfl, ?_⟩) (by assumption) ?_
            rotate_left 1
            · (intro w hSw; (try dsimp only at hSw); go_simp; first | done | with_reducible rfl)
            try simp only [Act.put, List.setIfInBounds_toArray, List.set_cons_zero, List.set_cons_succ]
            refine wpAnyH_ready (rs := [8, 12]) (by kernel_rfl) (by simp) ?_
            refine AllReadyH.cons (o := { dst := some 75, op := Op.call { callee := Callee.value (Operand.func 15), args := #[Operand.tmp 70, Operand.tmp 74], argTypes := #[27, 27] }, type := 29, pos := _, after := #[{ on := 3, ground := Ground.data }, { on := 7, ground := Ground.data }], guard := none }) rfl (fun K hK => ?_) (AllReadyH.cons (o := ⟨some 18, Op.alloc 27, 0, _, _, none⟩) rfl (fun K hK => ?_) AllReadyH.nil)
            · go_simp
              refine (KR.out _ (by (repeat (first | with_reducible assumption | with_reducible exact Since.refl _ | with_reducible refine Since.alloc ?_ _ | with_reducible refine Since.drew ?_)))).mono ?_
              rintro e v1 ⟨⟨s1, t1, u1, s2, t2, u2, s3, t3, u3⟩, rfl, hTv, hBv⟩
              try simp only
              have hq : Since wk1 v1 := by (with_reducible refine Since.step ?_ hBv.out); (repeat (first | with_reducible assumption | with_reducible exact Since.refl _ | with_reducible refine Since.alloc ?_ _ | with_reducible refine Since.drew ?_))
              have hT9 : TSr (fun k => True ∧ k < v1.heap.size) v1 nn ⟨s1, t1, u1, s2, t2, u2, s3, t3, u3⟩ := TS.keep (w := v1) (W := v1) ⟨Nat.le_refl _, fun _ _ _ => rfl⟩ (S' := fun _ => True) (fun _ _ _ => trivial) _ hTv.out
              clear hTv hBv
              try go_wp2_with fail
              refine hK.out _ _ ?_ (fun hHeld => ?_)
              · (with_reducible refine ⟨Since.cell ?_ x0, Since.cell ?_ x1, Since.cell ?_ x2, Since.cell ?_ y0, Since.cell ?_ y1, Since.cell ?_ y2, ?_⟩) <;> (repeat (first | with_reducible assumption | with_reducible exact Since.refl _ | with_reducible refine Since.alloc ?_ _ | with_reducible refine Since.drew ?_))
              clear hK K
              try simp only [Act.put, List.setIfInBounds_toArray, List.set_cons_zero, List.set_cons_succ]
              refine wpAnyH_take (i := 9) (oi := { dst := some 66, op := Op.move (Operand.tmp 75), type := 29, pos := _, after := #[{ on := 8, ground := Ground.data }], guard := none }) (v := ?_) rfl (by kernel_rfl) (by kernel_rfl) (by kernel_rfl) (fun _ _ _ h => h) (Or.inl ⟨by rfl, ?_⟩) (by assumption) ?_
              rotate_left 1
              · (intro w hSw; (try dsimp only at hSw); go_simp; first | done | with_reducible rfl)
              try simp only [Act.put, List.setIfInBounds_toArray, List.set_cons_zero, List.set_cons_succ]
              refine wpAnyH_take (i := 10) (oi := ⟨some 76, Op.extract (Operand.tmp 66) 0, 27, _, _, none⟩) (v := ?_) rfl (by kernel_rfl) (by kernel_rfl) (by kernel_rfl) (fun _ _ _ h => h) (Or.inl ⟨by rfl, ?_⟩) (by assumption) ?_
              rotate_left 1
              · (intro w hSw; (try dsimp only at hSw); go_simp; first | done | with_reducible rfl)
              try simp only [Act.put, List.setIfInBounds_toArray, List.set_cons_zero, List.set_cons_succ]
              refine wpAnyH_take (i := 11) (oi := ⟨some 77, Op.extract (Operand.tmp 66) 1, 28, _, _, none⟩) (v := ?_) rfl (by kernel_rfl) (by kernel_rfl) (by kernel_rfl) (fun _ _ _ h => h) (Or.inl ⟨by rfl, ?_⟩) (by assumption) ?_
              rotate_left 1
              · (intro w hSw; (try dsimp only at hSw); go_simp; first | done | with_reducible rfl)
              try simp only [Act.put, List.setIfInBounds_toArray, List.set_cons_zero, List.set_cons_succ]
              refine wpAnyH_ready (rs := [12]) (by kernel_rfl) (by simp) ?_
              refine AllReadyH.cons (o := ⟨some 18, Op.alloc 27, 0, _, _, none⟩) rfl (fun K hK => ?_) AllReadyH.nil
              go_simp
              try go_wp2_with fail
              refine hK.out _ _ ?_ (fun hHeld => ?_)
              · (with_reducible refine ⟨Since.cell ?_ x0, Since.cell ?_ x1, Since.cell ?_ x2, Since.cell ?_ y0, Since.cell ?_ y1, Since.cell ?_ y2, ?_⟩) <;> (repeat (first | with_reducible assumption | with_reducible exact Since.refl _ | with_reducible refine Since.alloc ?_ _ | with_reducible refine Since.drew ?_))
              clear hK K
              try simp only [Act.put, List.setIfInBounds_toArray, List.set_cons_zero, List.set_cons_succ]
              obtain ⟨z, hz⟩ : ∃ v, v = World.alloc v1 (.cells #[.slice none 0 0, .slice none 0 0, .slice none 0 0] 27) := ⟨_, rfl⟩
              obtain ⟨u, hu⟩ : ∃ v, v = World.alloc (World.drew v1) (.cells #[.slice none 0 0, .slice none 0 0, .slice none 0 0] 27) := ⟨_, rfl⟩
              have hzX : BoxL (World.heap v1).size [.slice none 0 0, .slice none 0 0, .slice none 0 0] z ∧ Since v1 z := by rw [hz]; exact ⟨BoxL.made v1 _ _, Since.alloc (Since.refl _) _⟩
              have huX : BoxL (World.heap v1).size [.slice none 0 0, .slice none 0 0, .slice none 0 0] u ∧ Since v1 u := by rw [hu]; exact ⟨BoxL.made (World.drew v1) _ _, Since.alloc (Since.drew (Since.refl _)) _⟩
              first | (rw [← hz]; clear hu huX u; have hX := hzX; clear hzX hz; generalize z = yy at *) | (rw [← hu]; clear hz hzX z; have hX := huX; clear huX hu; generalize u = yy at *)
              have hp := hX.2
              have hX := hX.1
              have hcm := cutM_A (E := E) hq hT9 hX hp
              have hsy : Since wk1 yy := Since.step hq hp
              have hNL : (World.heap wk1).size ≤ (World.heap v1).size := since_size hq
              clear hT9
              unfold put3 at hcm
              generalize (World.heap v1).size = NB at hX hcm hNL ⊢
              obtain ⟨z0, z1, z2, zf0, zf1, zf2, -⟩ := hX.open3
              refine wpAnyH_ready (rs := [13]) (by kernel_rfl) (by simp) ?_
              refine AllReadyH.cons (o := ⟨none, Op.store 27 (Operand.tmp 18) (Operand.tmp 76), 0, _, _, none⟩) rfl (fun K hK => ?_) AllReadyH.nil
              go_simp
              go_wp2_with fail
              have hs9 : Since wk1 (put3 yy NB (.slice s1 t1 u1) (.slice s2 t2 u2) (.slice s3 t3 u3)) := put3_below hsy hNL _ _ _
              unfold put3 at hs9
              refine hK.out _ _ ?_ (fun hHeld => ?_)
              · (with_reducible refine ⟨Since.cell ?_ x0, Since.cell ?_ x1, Since.cell ?_ x2, Since.cell ?_ y0, Since.cell ?_ y1, Since.cell ?_ y2, ?_⟩) <;> (repeat (first | with_reducible assumption | with_reducible exact Since.refl _ | with_reducible refine Since.alloc ?_ _ | with_reducible refine Since.drew ?_))
              clear hK K
              try simp only [Act.put, List.setIfInBounds_toArray, List.set_cons_zero, List.set_cons_succ]
              refine wpAnyH_take (i := 14) (oi := ⟨some 19, Op.assign (Operand.tmp 77), 28, _, _, none⟩) (v := ?_) rfl (by kernel_rfl) (by kernel_rfl) (by kernel_rfl) (fun _ _ _ h => h) (Or.inl ⟨by rfl, ?_⟩) (by assumption) ?_
              rotate_left 1
              · (intro w hSw; (try dsimp only at hSw); go_simp; first | done | with_reducible rfl)
              try simp only [Act.put, List.setIfInBounds_toArray, List.set_cons_zero, List.set_cons_succ]
              refine wpAnyH_done (by kernel_rfl) ?_ _
              refine NoPanic.normal ?_
              go_wp2_with fail
              go_meet
              exact hcm
            · go_simp
              try go_wp2_with fail
              refine hK.out _ _ ?_ (fun hHeld => ?_)
              · (with_reducible refine ⟨Since.cell ?_ x0, Since.cell ?_ x1, Since.cell ?_ x2, Since.cell ?_ y0, Since.cell ?_ y1, Since.cell ?_ y2, ?_⟩) <;> (repeat (first | with_reducible assumption | with_reducible exact Since.refl _ | with_reducible refine Since.alloc ?_ _ | with_reducible refine Since.drew ?_))
              clear hK K
              try simp only [Act.put, List.setIfInBounds_toArray, List.set_cons_zero, List.set_cons_succ]
              obtain ⟨z, hz⟩ : ∃ v, v = World.alloc wk1 (.cells #[.slice none 0 0, .slice none 0 0, .slice none 0 0] 27) := ⟨_, rfl⟩
              obtain ⟨u, hu⟩ : ∃ v, v = World.alloc (World.drew wk1) (.cells #[.slice none 0 0, .slice none 0 0, .slice none 0 0] 27) := ⟨_, rfl⟩
              have hzX : BoxL (World.heap wk1).size [.slice none 0 0, .slice none 0 0, .slice none 0 0] z ∧ Since wk1 z := by rw [hz]; exact ⟨BoxL.made wk1 _ _, Since.alloc (Since.refl _) _⟩
              have huX : BoxL (World.heap wk1).size [.slice none 0 0, .slice none 0 0, .slice none 0 0] u ∧ Since wk1 u := by rw [hu]; exact ⟨BoxL.made (World.drew wk1) _ _, Since.alloc (Since.drew (Since.refl _)) _⟩
              first | (rw [← hz]; clear hu huX u; have hX := hzX; clear hzX hz; generalize z = yy at *) | (rw [← hu]; clear hz hzX z; have hX := huX; clear huX hu; generalize u = yy at *)
              have hp := hX.2
              have hX := hX.1
              have hNL : (World.heap wk1).size ≤ (World.heap wk1).size := Nat.le_refl _
              have hNH : (World.heap wk1).size < (World.heap yy).size := hX.1
              refine wpAnyH_ready (rs := [8]) (by kernel_rfl) (by simp) ?_
              refine AllReadyH.cons (o := { dst := some 75, op := Op.call { callee := Callee.value (Operand.func 15), args := #[Operand.tmp 70, Operand.tmp 74], argTypes := #[27, 27] }, type := 29, pos := _, after := #[{ on := 3, ground := Ground.data }, { on := 7, ground := Ground.data }], guard := none }) rfl (fun K hK => ?_) AllReadyH.nil
              go_simp
              refine (KR.out _ (by (repeat (first | with_reducible assumption | with_reducible exact Since.refl _ | with_reducible refine Since.alloc ?_ _ | with_reducible refine Since.drew ?_)))).mono ?_
              rintro e v1 ⟨⟨s1, t1, u1, s2, t2, u2, s3, t3, u3⟩, rfl, hTv, hBv⟩
              try simp only
              have hq : Since yy v1 := by (with_reducible refine Since.step ?_ hBv.out); (repeat (first | with_reducible assumption | with_reducible exact Since.refl _ | with_reducible refine Since.alloc ?_ _ | with_reducible refine Since.drew ?_))
              have hs1 : Since wk1 v1 := Since.step hp hq
              have hX := hX.keep hq
              have hcm := cutM_B (E := E) (N := (World.heap wk1).size) (y := yy) hNL hNH hTv.out hX hs1
              clear hTv hBv
              unfold put3 at hcm
              generalize hNN : (World.heap wk1).size = NB at hX hcm ⊢
              have hNL : (World.heap wk1).size ≤ NB := by rw [hNN]; exact Nat.le_refl _
              clear hNN hNH
              try go_wp2_with fail
              refine hK.out _ _ ?_ (fun hHeld => ?_)
              · (with_reducible refine ⟨Since.cell ?_ x0, Since.cell ?_ x1, Since.cell ?_ x2, Since.cell ?_ y0, Since.cell ?_ y1, Since.cell ?_ y2, ?_⟩) <;> (repeat (first | with_reducible assumption | with_reducible exact Since.refl _ | with_reducible refine Since.alloc ?_ _ | with_reducible refine Since.drew ?_))
              clear hK K
              try simp only [Act.put, List.setIfInBounds_toArray, List.set_cons_zero, List.set_cons_succ]
              refine wpAnyH_take (i := 9) (oi := { dst := some 66, op := Op.move (Operand.tmp 75), type := 29, pos := _, after := #[{ on := 8, ground := Ground.data }], guard := none }) (v := ?_) rfl (by kernel_rfl) (by kernel_rfl) (by kernel_rfl) (fun _ _ _ h => h) (Or.inl ⟨by rfl, ?_⟩) (by assumption) ?_
              rotate_left 1
              · (intro w hSw; (try dsimp only at hSw); go_simp; first | done | with_reducible rfl)
              try simp only [Act.put, List.setIfInBounds_toArray, List.set_cons_zero, List.set_cons_succ]
              refine wpAnyH_take (i := 10) (oi := ⟨some 76, Op.extract (Operand.tmp 66) 0, 27, _, _, none⟩) (v := ?_) rfl (by kernel_rfl) (by kernel_rfl) (by kernel_rfl) (fun _ _ _ h => h) (Or.inl ⟨by rfl, ?_⟩) (by assumption) ?_
              rotate_left 1
              · (intro w hSw; (try dsimp only at hSw); go_simp; first | done | with_reducible rfl)
              try simp only [Act.put, List.setIfInBounds_toArray, List.set_cons_zero, List.set_cons_succ]
              refine wpAnyH_take (i := 11) (oi := ⟨some 77, Op.extract (Operand.tmp 66) 1, 28, _, _, none⟩) (v := ?_) rfl (by kernel_rfl) (by kernel_rfl) (by kernel_rfl) (fun _ _ _ h => h) (Or.inl ⟨by rfl, ?_⟩) (by assumption) ?_
              rotate_left 1
              · (intro w hSw; (try dsimp only at hSw); go_simp; first | done | with_reducible rfl)
              try simp only [Act.put, List.setIfInBounds_toArray, List.set_cons_zero, List.set_cons_succ]
              obtain ⟨z0, z1, z2, zf0, zf1, zf2, -⟩ := hX.open3
              refine wpAnyH_ready (rs := [13]) (by kernel_rfl) (by simp) ?_
              refine AllReadyH.cons (o := ⟨none, Op.store 27 (Operand.tmp 18) (Operand.tmp 76), 0, _, _, none⟩) rfl (fun K hK => ?_) AllReadyH.nil
              go_simp
              go_wp2_with fail
              have hs9 : Since wk1 (put3 v1 NB (.slice s1 t1 u1) (.slice s2 t2 u2) (.slice s3 t3 u3)) := put3_below hs1 hNL _ _ _
              unfold put3 at hs9
              refine hK.out _ _ ?_ (fun hHeld => ?_)
              · (with_reducible refine ⟨Since.cell ?_ x0, Since.cell ?_ x1, Since.cell ?_ x2, Since.cell ?_ y0, Since.cell ?_ y1, Since.cell ?_ y2, ?_⟩) <;> (repeat (first | with_reducible assumption | with_reducible exact Since.refl _ | with_reducible refine Since.alloc ?_ _ | with_reducible refine Since.drew ?_))
              clear hK K
              try simp only [Act.put, List.setIfInBounds_toArray, List.set_cons_zero, List.set_cons_succ]
              refine wpAnyH_take (i := 14) (oi := ⟨some 19, Op.assign (Operand.tmp 77), 28, _, _, none⟩) (v := ?_) rfl (by kernel_rfl) (by kernel_rfl) (by kernel_rfl) (fun _ _ _ h => h) (Or.inl ⟨by rfl, ?_⟩) (by assumption) ?_
              rotate_left 1
              · (intro w hSw; (try dsimp only at hSw); go_simp; first | done | with_reducible rfl)
              try simp only [Act.put, List.setIfInBounds_toArray, List.set_cons_zero, List.set_cons_succ]
              refine wpAnyH_done (by kernel_rfl) ?_ _
              refine NoPanic.normal ?_
              go_wp2_with fail
              go_meet
              exact hcm
          case rest =>
          obtain ⟨M2, ⟨s7, t7, u7, s8, t8, u8, s9, t9, u9⟩, rfl, rfl, hX2, hT2, hS2⟩ := hcut
          rename World => wk2
          simp only at hX2 hT2
          have x0 := Since.cell hS2.out x0
          have x1 := Since.cell hS2.out x1
          have x2 := Since.cell hS2.out x2
          have y0 := Since.cell hS2.out y0
          have y1 := Since.cell hS2.out y1
          have y2 := Since.cell hS2.out y2
          have HS2 := Lib.hid (Since.step hS1.out hS2.out)
          have HT1 := Lib.hid (TAt.below hS2.out hT1.out)
          obtain ⟨c0, c1, c2, -⟩ := (hX1.out.keep hS2.out).open3
          obtain ⟨l0, l1, l2, -⟩ := hX2.out.open3
          have K1 := Lib.hid fun W (h : Since wk2 W) => KS.out _ _ _ _ _ _ W (TAt.below h HT1.out) (TAt.below h hT2.out)
          have K2 := Lib.hid fun W (h : Since wk2 W) => KZ.out _ _ _ W (TAt.below h HT1.out)
          have K3 := Lib.hid fun W (h : Since wk2 W) => KZt.out W (Since.step HS2.out h)
          have K4 := Lib.hid fun W (h : Since wk2 W) => KZp.out W (Since.step HS2.out h)
          have hSd : Since wk2 wk2.drew := Since.drew (Since.refl _)
          clear KR KS KZ KZt KZp hX1 hX2 hT1 hT2 HT1
          go_upto_region 11 with (fail)
          go_cut [106] (fun s wx => s = .bool false ∧ Since wk2 wx)
          case first =>
            by_cases hE : E = 0
            · have hz := HSZ.out hE
              subst hE
              subst hz
              have hcz : ((st + sp : Nat) : Int) = (st : Int) + (sp : Int) := by omega
              simp only [hcz] at K2
              clear hcz
              refine wp_region_noPanic ?_
              refine wp_region_held_drew (S := fun w' => w'.cell? ⟨M1, 0, none⟩ = some (.slice s4 t4 u4) ∧ w'.cell? ⟨M1, 1, none⟩ = some (.slice s5 t5 u5) ∧ w'.cell? ⟨M1, 2, none⟩ = some (.slice s6 t6 u6) ∧ w'.cell? ⟨M2, 0, none⟩ = some (.slice s7 t7 u7) ∧ w'.cell? ⟨M2, 1, none⟩ = some (.slice s8 t8 u8) ∧ w'.cell? ⟨M2, 2, none⟩ = some (.slice s9 t9 u9) ∧ w'.cell? ⟨g, i * 3, none⟩ = some (.slice b1 m1 d1) ∧ w'.cell? ⟨g, i * 3 + 1, none⟩ = some (.slice b2 m2 d2) ∧ w'.cell? ⟨g, i * 3 + 2, none⟩ = some (.slice b3 m3 d3) ∧ w'.cell? ⟨g, j * 3, none⟩ = some (.slice e1 f1 k1) ∧ w'.cell? ⟨g, j * 3 + 1, none⟩ = some (.slice e2 f2 k2) ∧ w'.cell? ⟨g, j * 3 + 2, none⟩ = some (.slice e3 f3 k3) ∧ Since wk2 w') (by kernel_rfl) (by (with_reducible refine ⟨Since.cell ?_ c0, Since.cell ?_ c1, Since.cell ?_ c2, Since.cell ?_ l0, Since.cell ?_ l1, Since.cell ?_ l2, Since.cell ?_ x0, Since.cell ?_ x1, Since.cell ?_ x2, Since.cell ?_ y0, Since.cell ?_ y1, Since.cell ?_ y2, ?_⟩) <;> (repeat (first | with_reducible assumption | with_reducible exact Since.refl _ | with_reducible refine Since.alloc ?_ _ | with_reducible refine Since.drew ?_))) (fun hHeld => ?_)
              refine wpAnyH_take (i := 0) (oi := ⟨some 78, Op.move (Operand.tmp 17), 28, _, _, none⟩) (v := ?_) rfl (by kernel_rfl) (by kernel_rfl) (by kernel_rfl) (fun _ _ _ h => h) (Or.inl ⟨by rfl, ?_⟩) (by assumption) ?_
              rotate_left 1
              · (intro w hSw; (try dsimp only at hSw); go_simp; first | done | with_reducible rfl)
              try simp only [Act.put, List.setIfInBounds_toArray, List.set_cons_zero, List.set_cons_succ]
              refine wpAnyH_take (i := 1) (oi := ⟨some 79, Op.move (Operand.tmp 19), 28, _, _, none⟩) (v := ?_) rfl (by kernel_rfl) (by kernel_rfl) (by kernel_rfl) (fun _ _ _ h => h) (Or.inl ⟨by rfl, ?_⟩) (by assumption) ?_
              rotate_left 1
              · (intro w hSw; (try dsimp only at hSw); go_simp; first | done | with_reducible rfl)
              try simp only [Act.put, List.setIfInBounds_toArray, List.set_cons_zero, List.set_cons_succ]
              refine wpAnyH_take (i := 2) (oi := ⟨some 80, Op.binOp BinOp.neq 28 (Operand.tmp 78) (Operand.tmp 79) 28, 4, _, _, none⟩) (v := ?_) rfl (by kernel_rfl) (by kernel_rfl) (by kernel_rfl) (fun _ _ _ h => h) (Or.inl ⟨by rfl, ?_⟩) (by assumption) ?_
              rotate_left 1
              · (intro w hSw; (try dsimp only at hSw); go_simp; first | done | with_reducible rfl)
              try simp only [Act.put, List.setIfInBounds_toArray, List.set_cons_zero, List.set_cons_succ]
              refine wpAnyH_take (i := 3) (oi := ⟨some 81, Op.move (Operand.tmp 80), 4, _, _, none⟩) (v := ?_) rfl (by kernel_rfl) (by kernel_rfl) (by kernel_rfl) (fun _ _ _ h => h) (Or.inl ⟨by rfl, ?_⟩) (by assumption) ?_
              rotate_left 1
              · (intro w hSw; (try dsimp only at hSw); go_simp; first | done | with_reducible rfl)
              try simp only [Act.put, List.setIfInBounds_toArray, List.set_cons_zero, List.set_cons_succ]
              refine wpAnyH_take (i := 4) (oi := ⟨some 82, Op.load 27 (Operand.tmp 16), 27, _, _, some (3, false)⟩) (v := ?_) rfl (by kernel_rfl) (by kernel_rfl) (by kernel_rfl) (fun _ _ _ h => h) (Or.inl ⟨by rfl, ?_⟩) (by assumption) ?_
              rotate_left 1
              · (intro w hSw; (try dsimp only at hSw); go_simp; first | done | with_reducible rfl)
              try simp only [Act.put, List.setIfInBounds_toArray, List.set_cons_zero, List.set_cons_succ]
              refine wpAnyH_take (i := 5) (oi := ⟨some 83, Op.load 27 (Operand.tmp 18), 27, _, _, some (3, false)⟩) (v := ?_) rfl (by kernel_rfl) (by kernel_rfl) (by kernel_rfl) (fun _ _ _ h => h) (Or.inl ⟨by rfl, ?_⟩) (by assumption) ?_
              rotate_left 1
              · (intro w hSw; (try dsimp only at hSw); go_simp; first | done | with_reducible rfl)
              try simp only [Act.put, List.setIfInBounds_toArray, List.set_cons_zero, List.set_cons_succ]
              refine wpAnyH_ready (rs := [6]) (by kernel_rfl) (by simp) ?_
              refine AllReadyH.cons (o := ⟨some 84, Op.call { callee := Callee.value (Operand.func 9), args := #[Operand.tmp 82, Operand.tmp 83], argTypes := #[27, 27] }, 4, _, _, some (3, false)⟩) rfl (fun K hK => ?_) AllReadyH.nil
              go_simp
              with_reducible refine (K1.out _ (by (repeat (first | with_reducible assumption | with_reducible exact Since.refl _ | with_reducible refine Since.alloc ?_ _ | with_reducible refine Since.drew ?_)))).mono ?_
              rintro e v1 ⟨rfl, hr⟩
              have hv1 : Since wk2 v1 := by (with_reducible refine Since.step ?_ hr); (repeat (first | with_reducible assumption | with_reducible exact Since.refl _ | with_reducible refine Since.alloc ?_ _ | with_reducible refine Since.drew ?_))
              clear hr
              refine hK.out _ _ ?_ (fun hHeld => ?_)
              · (with_reducible refine ⟨Since.cell ?_ c0, Since.cell ?_ c1, Since.cell ?_ c2, Since.cell ?_ l0, Since.cell ?_ l1, Since.cell ?_ l2, Since.cell ?_ x0, Since.cell ?_ x1, Since.cell ?_ x2, Since.cell ?_ y0, Since.cell ?_ y1, Since.cell ?_ y2, ?_⟩) <;> (repeat (first | with_reducible assumption | with_reducible exact Since.refl _ | with_reducible refine Since.alloc ?_ _ | with_reducible refine Since.drew ?_))
              clear hK K
              try simp only [Act.put, List.setIfInBounds_toArray, List.set_cons_zero, List.set_cons_succ]
              refine wpAnyH_take (i := 7) (oi := ⟨some 85, Op.unOp UnOp.not 4 (Operand.tmp 84), 4, _, _, some (3, false)⟩) (v := ?_) rfl (by kernel_rfl) (by kernel_rfl) (by kernel_rfl) (fun _ _ _ h => h) (Or.inl ⟨by rfl, ?_⟩) (by assumption) ?_
              rotate_left 1
              · (intro w hSw; (try dsimp only at hSw); go_simp; first | done | with_reducible rfl)
              try simp only [Act.put, List.setIfInBounds_toArray, List.set_cons_zero, List.set_cons_succ]
              refine wpAnyH_take (i := 8) (oi := ⟨some 86, Op.pick (Operand.tmp 81) (Operand.const (Value.bool true)) (Operand.tmp 85), 4, _, _, none⟩) (v := ?_) rfl (by kernel_rfl) (by kernel_rfl) (by kernel_rfl) (fun _ _ _ h => h) (Or.inl ⟨by rfl, ?_⟩) (by assumption) ?_
              rotate_left 1
              · (intro w hSw; (try dsimp only at hSw); go_simp; first | done | with_reducible rfl)
              try simp only [Act.put, List.setIfInBounds_toArray, List.set_cons_zero, List.set_cons_succ]
              refine wpAnyH_take (i := 9) (oi := ⟨some 87, Op.move (Operand.tmp 86), 4, _, _, none⟩) (v := ?_) rfl (by kernel_rfl) (by kernel_rfl) (by kernel_rfl) (fun _ _ _ h => h) (Or.inl ⟨by rfl, ?_⟩) (by assumption) ?_
              rotate_left 1
              · (intro w hSw; (try dsimp only at hSw); go_simp; first | done | with_reducible rfl)
              try simp only [Act.put, List.setIfInBounds_toArray, List.set_cons_zero, List.set_cons_succ]
              refine wpAnyH_take (i := 10) (oi := ⟨some 88, Op.move (Operand.tmp 17), 28, _, _, some (9, false)⟩) (v := ?_) rfl (by kernel_rfl) (by kernel_rfl) (by kernel_rfl) (fun _ _ _ h => h) (Or.inl ⟨by rfl, ?_⟩) (by assumption) ?_
              rotate_left 1
              · (intro w hSw; (try dsimp only at hSw); go_simp; first | done | with_reducible rfl)
              try simp only [Act.put, List.setIfInBounds_toArray, List.set_cons_zero, List.set_cons_succ]
              refine wpAnyH_take (i := 11) (oi := ⟨some 89, Op.binOp BinOp.eql 28 (Operand.tmp 88) (Operand.const (Value.int IntKind.i64 0)) 28, 4, _, _, some (9, false)⟩) (v := ?_) rfl (by kernel_rfl) (by kernel_rfl) (by kernel_rfl) (fun _ _ _ h => h) (Or.inl ⟨by rfl, ?_⟩) (by assumption) ?_
              rotate_left 1
              · (intro w hSw; (try dsimp only at hSw); go_simp; first | done | with_reducible rfl)
              try simp only [Act.put, List.setIfInBounds_toArray, List.set_cons_zero, List.set_cons_succ]
              refine wpAnyH_take (i := 12) (oi := ⟨some 90, Op.move (Operand.tmp 89), 4, _, _, some (9, false)⟩) (v := ?_) rfl (by kernel_rfl) (by kernel_rfl) (by kernel_rfl) (fun _ _ _ h => h) (Or.inl ⟨by rfl, ?_⟩) (by assumption) ?_
              rotate_left 1
              · (intro w hSw; (try dsimp only at hSw); go_simp; first | done | with_reducible rfl)
              try simp only [Act.put, List.setIfInBounds_toArray, List.set_cons_zero, List.set_cons_succ]
              refine wpAnyH_take (i := 13) (oi := ⟨some 91, Op.load 27 (Operand.tmp 16), 27, _, _, some (12, true)⟩) (v := ?_) rfl (by kernel_rfl) (by kernel_rfl) (by kernel_rfl) (fun _ _ _ h => h) (Or.inl ⟨by rfl, ?_⟩) (by assumption) ?_
              rotate_left 1
              · (intro w hSw; (try dsimp only at hSw); go_simp; first | done | with_reducible rfl)
              try simp only [Act.put, List.setIfInBounds_toArray, List.set_cons_zero, List.set_cons_succ]
              refine wpAnyH_take (i := 15) (oi := ⟨some 93, Op.move (Operand.tmp 11), 23, _, _, some (12, true)⟩) (v := ?_) rfl (by kernel_rfl) (by kernel_rfl) (by kernel_rfl) (fun _ _ _ h => h) (Or.inl ⟨by rfl, ?_⟩) (by assumption) ?_
              rotate_left 1
              · (intro w hSw; (try dsimp only at hSw); go_simp; first | done | with_reducible rfl)
              try simp only [Act.put, List.setIfInBounds_toArray, List.set_cons_zero, List.set_cons_succ]
              refine wpAnyH_take (i := 16) (oi := ⟨some 94, Op.move (Operand.tmp 12), 3, _, _, some (12, true)⟩) (v := ?_) rfl (by kernel_rfl) (by kernel_rfl) (by kernel_rfl) (fun _ _ _ h => h) (Or.inl ⟨by rfl, ?_⟩) (by assumption) ?_
              rotate_left 1
              · (intro w hSw; (try dsimp only at hSw); go_simp; first | done | with_reducible rfl)
              try simp only [Act.put, List.setIfInBounds_toArray, List.set_cons_zero, List.set_cons_succ]
              refine wpAnyH_take (i := 17) (oi := ⟨some 95, Op.indexAddr 23 (Operand.tmp 93) (Operand.tmp 94), 0, _, _, some (12, true)⟩) (v := ?_) rfl (by kernel_rfl) (by kernel_rfl) (by kernel_rfl) (fun _ _ _ h => h) (Or.inl ⟨by rfl, ?_⟩) (by assumption) ?_
              rotate_left 1
              · (intro w hSw; (try dsimp only at hSw); go_simp; first | done | with_reducible rfl)
              try simp only [Act.put, List.setIfInBounds_toArray, List.set_cons_zero, List.set_cons_succ]
              refine wpAnyH_take (i := 18) (oi := ⟨some 96, Op.load 27 (Operand.tmp 95), 27, _, _, some (12, true)⟩) (v := ?_) rfl (by kernel_rfl) (by kernel_rfl) (by kernel_rfl) (fun _ _ _ h => h) (Or.inl ⟨by rfl, ?_⟩) (by assumption) ?_
              rotate_left 1
              · (intro w hSw; (try dsimp only at hSw); go_simp; first | done | with_reducible rfl)
              try simp only [Act.put, List.setIfInBounds_toArray, List.set_cons_zero, List.set_cons_succ]
              refine wpAnyH_take (i := 20) (oi := ⟨some 98, Op.move (Operand.tmp 11), 23, _, _, some (12, true)⟩) (v := ?_) rfl (by kernel_rfl) (by kernel_rfl) (by kernel_rfl) (fun _ _ _ h => h) (Or.inl ⟨by rfl, ?_⟩) (by assumption) ?_
              rotate_left 1
              · (intro w hSw; (try dsimp only at hSw); go_simp; first | done | with_reducible rfl)
              try simp only [Act.put, List.setIfInBounds_toArray, List.set_cons_zero, List.set_cons_succ]
              refine wpAnyH_take (i := 21) (oi := ⟨some 99, Op.move (Operand.tmp 15), 3, _, _, some (12, true)⟩) (v := ?_) rfl (by kernel_rfl) (by kernel_rfl) (by kernel_rfl) (fun _ _ _ h => h) (Or.inl ⟨by rfl, ?_⟩) (by assumption) ?_
              rotate_left 1
              · (intro w hSw; (try dsimp only at hSw); go_simp; first | done | with_reducible rfl)
              try simp only [Act.put, List.setIfInBounds_toArray, List.set_cons_zero, List.set_cons_succ]
              refine wpAnyH_take (i := 22) (oi := ⟨some 100, Op.indexAddr 23 (Operand.tmp 98) (Operand.tmp 99), 0, _, _, some (12, true)⟩) (v := ?_) rfl (by kernel_rfl) (by kernel_rfl) (by kernel_rfl) (fun _ _ _ h => h) (Or.inl ⟨by rfl, ?_⟩) (by assumption) ?_
              rotate_left 1
              · (intro w hSw; (try dsimp only at hSw); go_simp; first | done | with_reducible rfl)
              try simp only [Act.put, List.setIfInBounds_toArray, List.set_cons_zero, List.set_cons_succ]
              refine wpAnyH_take (i := 23) (oi := ⟨some 101, Op.load 27 (Operand.tmp 100), 27, _, _, some (12, true)⟩) (v := ?_) rfl (by kernel_rfl) (by kernel_rfl) (by kernel_rfl) (fun _ _ _ h => h) (Or.inl ⟨by rfl, ?_⟩) (by assumption) ?_
              rotate_left 1
              · (intro w hSw; (try dsimp only at hSw); go_simp; first | done | with_reducible rfl)
              try simp only [Act.put, List.setIfInBounds_toArray, List.set_cons_zero, List.set_cons_succ]
              refine wpAnyH_ready (rs := [14]) (by kernel_rfl) (by simp) ?_
              refine AllReadyH.cons (o := ⟨some 92, Op.call { callee := Callee.value (Operand.func 11), args := #[Operand.tmp 91], argTypes := #[27] }, 3, _, _, some (12, true)⟩) rfl (fun K hK => ?_) AllReadyH.nil
              go_simp
              with_reducible refine (K2.out _ (by (repeat (first | with_reducible assumption | with_reducible exact Since.refl _ | with_reducible refine Since.alloc ?_ _ | with_reducible refine Since.drew ?_)))).mono ?_
              rintro e v2 ⟨rfl, hr⟩
              have hv2 : Since wk2 v2 := by (with_reducible refine Since.step ?_ hr); (repeat (first | with_reducible assumption | with_reducible exact Since.refl _ | with_reducible refine Since.alloc ?_ _ | with_reducible refine Since.drew ?_))
              clear hr
              refine hK.out _ _ ?_ (fun hHeld => ?_)
              · (with_reducible refine ⟨Since.cell ?_ c0, Since.cell ?_ c1, Since.cell ?_ c2, Since.cell ?_ l0, Since.cell ?_ l1, Since.cell ?_ l2, Since.cell ?_ x0, Since.cell ?_ x1, Since.cell ?_ x2, Since.cell ?_ y0, Since.cell ?_ y1, Since.cell ?_ y2, ?_⟩) <;> (repeat (first | with_reducible assumption | with_reducible exact Since.refl _ | with_reducible refine Since.alloc ?_ _ | with_reducible refine Since.drew ?_))
              clear hK K
              try simp only [Act.put, List.setIfInBounds_toArray, List.set_cons_zero, List.set_cons_succ]
              refine wpAnyH_ready (rs := [19]) (by kernel_rfl) (by simp) ?_
              refine AllReadyH.cons (o := ⟨some 97, Op.call { callee := Callee.value (Operand.func 11), args := #[Operand.tmp 96], argTypes := #[27] }, 3, _, _, some (12, true)⟩) rfl (fun K hK => ?_) AllReadyH.nil
              go_simp
              with_reducible refine (K3.out _ (by (repeat (first | with_reducible assumption | with_reducible exact Since.refl _ | with_reducible refine Since.alloc ?_ _ | with_reducible refine Since.drew ?_)))).mono ?_
              rintro e v3 ⟨rfl, hr⟩
              have hv3 : Since wk2 v3 := by (with_reducible refine Since.step ?_ hr); (repeat (first | with_reducible assumption | with_reducible exact Since.refl _ | with_reducible refine Since.alloc ?_ _ | with_reducible refine Since.drew ?_))
              clear hr
              refine hK.out _ _ ?_ (fun hHeld => ?_)
              · (with_reducible refine ⟨Since.cell ?_ c0, Since.cell ?_ c1, Since.cell ?_ c2, Since.cell ?_ l0, Since.cell ?_ l1, Since.cell ?_ l2, Since.cell ?_ x0, Since.cell ?_ x1, Since.cell ?_ x2, Since.cell ?_ y0, Since.cell ?_ y1, Since.cell ?_ y2, ?_⟩) <;> (repeat (first | with_reducible assumption | with_reducible exact Since.refl _ | with_reducible refine Since.alloc ?_ _ | with_reducible refine Since.drew ?_))
              clear hK K
              try simp only [Act.put, List.setIfInBounds_toArray, List.set_cons_zero, List.set_cons_succ]
              refine wpAnyH_ready (rs := [24]) (by kernel_rfl) (by simp) ?_
              refine AllReadyH.cons (o := ⟨some 102, Op.call { callee := Callee.value (Operand.func 11), args := #[Operand.tmp 101], argTypes := #[27] }, 3, _, _, some (12, true)⟩) rfl (fun K hK => ?_) AllReadyH.nil
              go_simp
              with_reducible refine (K4.out _ (by (repeat (first | with_reducible assumption | with_reducible exact Since.refl _ | with_reducible refine Since.alloc ?_ _ | with_reducible refine Since.drew ?_)))).mono ?_
              rintro e v4 ⟨rfl, hr⟩
              have hv4 : Since wk2 v4 := by (with_reducible refine Since.step ?_ hr); (repeat (first | with_reducible assumption | with_reducible exact Since.refl _ | with_reducible refine Since.alloc ?_ _ | with_reducible refine Since.drew ?_))
              clear hr
              refine hK.out _ _ ?_ (fun hHeld => ?_)
              · (with_reducible refine ⟨Since.cell ?_ c0, Since.cell ?_ c1, Since.cell ?_ c2, Since.cell ?_ l0, Since.cell ?_ l1, Since.cell ?_ l2, Since.cell ?_ x0, Since.cell ?_ x1, Since.cell ?_ x2, Since.cell ?_ y0, Since.cell ?_ y1, Since.cell ?_ y2, ?_⟩) <;> (repeat (first | with_reducible assumption | with_reducible exact Since.refl _ | with_reducible refine Since.alloc ?_ _ | with_reducible refine Since.drew ?_))
              clear hK K
              try simp only [Act.put, List.setIfInBounds_toArray, List.set_cons_zero, List.set_cons_succ]
              refine wpAnyH_take (i := 25) (oi := ⟨some 103, Op.binOp BinOp.add 3 (Operand.tmp 97) (Operand.tmp 102) 3, 3, _, _, some (12, true)⟩) (v := ?_) rfl (by kernel_rfl) (by kernel_rfl) (by kernel_rfl) (fun _ _ _ h => h) (Or.inl ⟨by rfl, ?_⟩) (by assumption) ?_
              rotate_left 1
              · (intro w hSw; (try dsimp only at hSw); go_simp; first | done | with_reducible rfl)
              try simp only [Act.put, List.setIfInBounds_toArray, List.set_cons_zero, List.set_cons_succ]
              refine wpAnyH_take (i := 26) (oi := ⟨some 104, Op.binOp BinOp.neq 3 (Operand.tmp 92) (Operand.tmp 103) 3, 4, _, _, some (12, true)⟩) (v := ?_) rfl (by kernel_rfl) (by kernel_rfl) (by kernel_rfl) (fun _ _ _ h => h) (Or.inl ⟨by rfl, ?_⟩) (by assumption) ?_
              rotate_left 1
              · (intro w hSw; (try dsimp only at hSw); go_simp; first | done | with_reducible rfl)
              try simp only [Act.put, List.setIfInBounds_toArray, List.set_cons_zero, List.set_cons_succ]
              refine wpAnyH_take (i := 27) (oi := ⟨some 105, Op.pick (Operand.tmp 90) (Operand.tmp 104) (Operand.const (Value.bool false)), 4, _, _, some (9, false)⟩) (v := ?_) rfl (by kernel_rfl) (by kernel_rfl) (by kernel_rfl) (fun _ _ _ h => h) (Or.inl ⟨by rfl, ?_⟩) (by assumption) ?_
              rotate_left 1
              · (intro w hSw; (try dsimp only at hSw); go_simp; first | done | with_reducible rfl)
              try simp only [Act.put, List.setIfInBounds_toArray, List.set_cons_zero, List.set_cons_succ]
              refine wpAnyH_take (i := 28) (oi := ⟨some 106, Op.pick (Operand.tmp 87) (Operand.const (Value.bool true)) (Operand.tmp 105), 4, _, _, none⟩) (v := ?_) rfl (by kernel_rfl) (by kernel_rfl) (by kernel_rfl) (fun _ _ _ h => h) (Or.inl ⟨by rfl, ?_⟩) (by assumption) ?_
              rotate_left 1
              · (intro w hSw; (try dsimp only at hSw); go_simp; first | done | with_reducible rfl)
              try simp only [Act.put, List.setIfInBounds_toArray, List.set_cons_zero, List.set_cons_succ]
              refine wpAnyH_done (by kernel_rfl) ?_ _
              refine NoPanic.normal ?_
              go_wp2_with fail
              go_meet
              exact ⟨rfl, hv4⟩
            · have hE2 : (E == 0) = false := beq_eq_false_iff_ne.2 hE
              clear hE
              refine wp_region_noPanic ?_
              refine wp_region_held_drew (S := fun w' => w'.cell? ⟨M1, 0, none⟩ = some (.slice s4 t4 u4) ∧ w'.cell? ⟨M1, 1, none⟩ = some (.slice s5 t5 u5) ∧ w'.cell? ⟨M1, 2, none⟩ = some (.slice s6 t6 u6) ∧ w'.cell? ⟨M2, 0, none⟩ = some (.slice s7 t7 u7) ∧ w'.cell? ⟨M2, 1, none⟩ = some (.slice s8 t8 u8) ∧ w'.cell? ⟨M2, 2, none⟩ = some (.slice s9 t9 u9) ∧ w'.cell? ⟨g, i * 3, none⟩ = some (.slice b1 m1 d1) ∧ w'.cell? ⟨g, i * 3 + 1, none⟩ = some (.slice b2 m2 d2) ∧ w'.cell? ⟨g, i * 3 + 2, none⟩ = some (.slice b3 m3 d3) ∧ w'.cell? ⟨g, j * 3, none⟩ = some (.slice e1 f1 k1) ∧ w'.cell? ⟨g, j * 3 + 1, none⟩ = some (.slice e2 f2 k2) ∧ w'.cell? ⟨g, j * 3 + 2, none⟩ = some (.slice e3 f3 k3) ∧ Since wk2 w') (by kernel_rfl) (by (with_reducible refine ⟨Since.cell ?_ c0, Since.cell ?_ c1, Since.cell ?_ c2, Since.cell ?_ l0, Since.cell ?_ l1, Since.cell ?_ l2, Since.cell ?_ x0, Since.cell ?_ x1, Since.cell ?_ x2, Since.cell ?_ y0, Since.cell ?_ y1, Since.cell ?_ y2, ?_⟩) <;> (repeat (first | with_reducible assumption | with_reducible exact Since.refl _ | with_reducible refine Since.alloc ?_ _ | with_reducible refine Since.drew ?_))) (fun hHeld => ?_)
              refine wpAnyH_take (i := 0) (oi := ⟨some 78, Op.move (Operand.tmp 17), 28, _, _, none⟩) (v := ?_) rfl (by kernel_rfl) (by kernel_rfl) (by kernel_rfl) (fun _ _ _ h => h) (Or.inl ⟨by rfl, ?_⟩) (by assumption) ?_
              rotate_left 1
              · (intro w hSw; (try dsimp only at hSw); go_simp; first | done | with_reducible rfl)
              try simp only [Act.put, List.setIfInBounds_toArray, List.set_cons_zero, List.set_cons_succ]
              refine wpAnyH_take (i := 1) (oi := ⟨some 79, Op.move (Operand.tmp 19), 28, _, _, none⟩) (v := ?_) rfl (by kernel_rfl) (by kernel_rfl) (by kernel_rfl) (fun _ _ _ h => h) (Or.inl ⟨by rfl, ?_⟩) (by assumption) ?_
              rotate_left 1
              · (intro w hSw; (try dsimp only at hSw); go_simp; first | done | with_reducible rfl)
              try simp only [Act.put, List.setIfInBounds_toArray, List.set_cons_zero, List.set_cons_succ]
              refine wpAnyH_take (i := 2) (oi := ⟨some 80, Op.binOp BinOp.neq 28 (Operand.tmp 78) (Operand.tmp 79) 28, 4, _, _, none⟩) (v := ?_) rfl (by kernel_rfl) (by kernel_rfl) (by kernel_rfl) (fun _ _ _ h => h) (Or.inl ⟨by rfl, ?_⟩) (by assumption) ?_
              rotate_left 1
              · (intro w hSw; (try dsimp only at hSw); go_simp; first | done | with_reducible rfl)
              try simp only [Act.put, List.setIfInBounds_toArray, List.set_cons_zero, List.set_cons_succ]
              refine wpAnyH_take (i := 3) (oi := ⟨some 81, Op.move (Operand.tmp 80), 4, _, _, none⟩) (v := ?_) rfl (by kernel_rfl) (by kernel_rfl) (by kernel_rfl) (fun _ _ _ h => h) (Or.inl ⟨by rfl, ?_⟩) (by assumption) ?_
              rotate_left 1
              · (intro w hSw; (try dsimp only at hSw); go_simp; first | done | with_reducible rfl)
              try simp only [Act.put, List.setIfInBounds_toArray, List.set_cons_zero, List.set_cons_succ]
              refine wpAnyH_take (i := 4) (oi := ⟨some 82, Op.load 27 (Operand.tmp 16), 27, _, _, some (3, false)⟩) (v := ?_) rfl (by kernel_rfl) (by kernel_rfl) (by kernel_rfl) (fun _ _ _ h => h) (Or.inl ⟨by rfl, ?_⟩) (by assumption) ?_
              rotate_left 1
              · (intro w hSw; (try dsimp only at hSw); go_simp; first | done | with_reducible rfl)
              try simp only [Act.put, List.setIfInBounds_toArray, List.set_cons_zero, List.set_cons_succ]
              refine wpAnyH_take (i := 5) (oi := ⟨some 83, Op.load 27 (Operand.tmp 18), 27, _, _, some (3, false)⟩) (v := ?_) rfl (by kernel_rfl) (by kernel_rfl) (by kernel_rfl) (fun _ _ _ h => h) (Or.inl ⟨by rfl, ?_⟩) (by assumption) ?_
              rotate_left 1
              · (intro w hSw; (try dsimp only at hSw); go_simp; first | done | with_reducible rfl)
              try simp only [Act.put, List.setIfInBounds_toArray, List.set_cons_zero, List.set_cons_succ]
              refine wpAnyH_ready (rs := [6]) (by kernel_rfl) (by simp) ?_
              refine AllReadyH.cons (o := ⟨some 84, Op.call { callee := Callee.value (Operand.func 9), args := #[Operand.tmp 82, Operand.tmp 83], argTypes := #[27, 27] }, 4, _, _, some (3, false)⟩) rfl (fun K hK => ?_) AllReadyH.nil
              go_simp
              with_reducible refine (K1.out _ (by (repeat (first | with_reducible assumption | with_reducible exact Since.refl _ | with_reducible refine Since.alloc ?_ _ | with_reducible refine Since.drew ?_)))).mono ?_
              rintro e v1 ⟨rfl, hr⟩
              have hv1 : Since wk2 v1 := by (with_reducible refine Since.step ?_ hr); (repeat (first | with_reducible assumption | with_reducible exact Since.refl _ | with_reducible refine Since.alloc ?_ _ | with_reducible refine Since.drew ?_))
              clear hr
              refine hK.out _ _ ?_ (fun hHeld => ?_)
              · (with_reducible refine ⟨Since.cell ?_ c0, Since.cell ?_ c1, Since.cell ?_ c2, Since.cell ?_ l0, Since.cell ?_ l1, Since.cell ?_ l2, Since.cell ?_ x0, Since.cell ?_ x1, Since.cell ?_ x2, Since.cell ?_ y0, Since.cell ?_ y1, Since.cell ?_ y2, ?_⟩) <;> (repeat (first | with_reducible assumption | with_reducible exact Since.refl _ | with_reducible refine Since.alloc ?_ _ | with_reducible refine Since.drew ?_))
              clear hK K
              try simp only [Act.put, List.setIfInBounds_toArray, List.set_cons_zero, List.set_cons_succ]
              refine wpAnyH_take (i := 7) (oi := ⟨some 85, Op.unOp UnOp.not 4 (Operand.tmp 84), 4, _, _, some (3, false)⟩) (v := ?_) rfl (by kernel_rfl) (by kernel_rfl) (by kernel_rfl) (fun _ _ _ h => h) (Or.inl ⟨by rfl, ?_⟩) (by assumption) ?_
              rotate_left 1
              · (intro w hSw; (try dsimp only at hSw); go_simp; first | done | with_reducible rfl)
              try simp only [Act.put, List.setIfInBounds_toArray, List.set_cons_zero, List.set_cons_succ]
              refine wpAnyH_take (i := 8) (oi := ⟨some 86, Op.pick (Operand.tmp 81) (Operand.const (Value.bool true)) (Operand.tmp 85), 4, _, _, none⟩) (v := ?_) rfl (by kernel_rfl) (by kernel_rfl) (by kernel_rfl) (fun _ _ _ h => h) (Or.inl ⟨by rfl, ?_⟩) (by assumption) ?_
              rotate_left 1
              · (intro w hSw; (try dsimp only at hSw); go_simp; first | done | with_reducible rfl)
              try simp only [Act.put, List.setIfInBounds_toArray, List.set_cons_zero, List.set_cons_succ]
              refine wpAnyH_take (i := 9) (oi := ⟨some 87, Op.move (Operand.tmp 86), 4, _, _, none⟩) (v := ?_) rfl (by kernel_rfl) (by kernel_rfl) (by kernel_rfl) (fun _ _ _ h => h) (Or.inl ⟨by rfl, ?_⟩) (by assumption) ?_
              rotate_left 1
              · (intro w hSw; (try dsimp only at hSw); go_simp; first | done | with_reducible rfl)
              try simp only [Act.put, List.setIfInBounds_toArray, List.set_cons_zero, List.set_cons_succ]
              refine wpAnyH_take (i := 10) (oi := ⟨some 88, Op.move (Operand.tmp 17), 28, _, _, some (9, false)⟩) (v := ?_) rfl (by kernel_rfl) (by kernel_rfl) (by kernel_rfl) (fun _ _ _ h => h) (Or.inl ⟨by rfl, ?_⟩) (by assumption) ?_
              rotate_left 1
              · (intro w hSw; (try dsimp only at hSw); go_simp; first | done | with_reducible rfl)
              try simp only [Act.put, List.setIfInBounds_toArray, List.set_cons_zero, List.set_cons_succ]
              refine wpAnyH_take (i := 11) (oi := ⟨some 89, Op.binOp BinOp.eql 28 (Operand.tmp 88) (Operand.const (Value.int IntKind.i64 0)) 28, 4, _, _, some (9, false)⟩) (v := ?_) rfl (by kernel_rfl) (by kernel_rfl) (by kernel_rfl) (fun _ _ _ h => h) (Or.inl ⟨by rfl, ?_⟩) (by assumption) ?_
              rotate_left 1
              · (intro w hSw; (try dsimp only at hSw); go_simp; first | done | with_reducible rfl)
              try simp only [Act.put, List.setIfInBounds_toArray, List.set_cons_zero, List.set_cons_succ]
              refine wpAnyH_take (i := 12) (oi := ⟨some 90, Op.move (Operand.tmp 89), 4, _, _, some (9, false)⟩) (v := ?_) rfl (by kernel_rfl) (by kernel_rfl) (by kernel_rfl) (fun _ _ _ h => h) (Or.inl ⟨by rfl, ?_⟩) (by assumption) ?_
              rotate_left 1
              · (intro w hSw; (try dsimp only at hSw); go_simp; first | done | with_reducible rfl)
              try simp only [Act.put, List.setIfInBounds_toArray, List.set_cons_zero, List.set_cons_succ]
              refine wpAnyH_take (i := 13) (oi := ⟨some 91, Op.load 27 (Operand.tmp 16), 27, _, _, some (12, true)⟩) (v := undef) rfl (by kernel_rfl) (by kernel_rfl) (by kernel_rfl) (fun _ _ _ h => h) (Or.inr ⟨by rfl, rfl⟩) (by assumption) ?_
              try simp only [Act.put, List.setIfInBounds_toArray, List.set_cons_zero, List.set_cons_succ]
              refine wpAnyH_take (i := 14) (oi := ⟨some 92, Op.call { callee := Callee.value (Operand.func 11), args := #[Operand.tmp 91], argTypes := #[27] }, 3, _, _, some (12, true)⟩) (v := undef) rfl (by kernel_rfl) (by kernel_rfl) (by kernel_rfl) (fun _ _ _ h => h) (Or.inr ⟨by rfl, rfl⟩) (by assumption) ?_
              try simp only [Act.put, List.setIfInBounds_toArray, List.set_cons_zero, List.set_cons_succ]
              refine wpAnyH_take (i := 15) (oi := ⟨some 93, Op.move (Operand.tmp 11), 23, _, _, some (12, true)⟩) (v := undef) rfl (by kernel_rfl) (by kernel_rfl) (by kernel_rfl) (fun _ _ _ h => h) (Or.inr ⟨by rfl, rfl⟩) (by assumption) ?_
              try simp only [Act.put, List.setIfInBounds_toArray, List.set_cons_zero, List.set_cons_succ]
              refine wpAnyH_take (i := 16) (oi := ⟨some 94, Op.move (Operand.tmp 12), 3, _, _, some (12, true)⟩) (v := undef) rfl (by kernel_rfl) (by kernel_rfl) (by kernel_rfl) (fun _ _ _ h => h) (Or.inr ⟨by rfl, rfl⟩) (by assumption) ?_
              try simp only [Act.put, List.setIfInBounds_toArray, List.set_cons_zero, List.set_cons_succ]
              refine wpAnyH_take (i := 17) (oi := ⟨some 95, Op.indexAddr 23 (Operand.tmp 93) (Operand.tmp 94), 0, _, _, some (12, true)⟩) (v := undef) rfl (by kernel_rfl) (by kernel_rfl) (by kernel_rfl) (fun _ _ _ h => h) (Or.inr ⟨by rfl, rfl⟩) (by assumption) ?_
              try simp only [Act.put, List.setIfInBounds_toArray, List.set_cons_zero, List.set_cons_succ]
              refine wpAnyH_take (i := 18) (oi := ⟨some 96, Op.load 27 (Operand.tmp 95), 27, _, _, some (12, true)⟩) (v := undef) rfl (by kernel_rfl) (by kernel_rfl) (by kernel_rfl) (fun _ _ _ h => h) (Or.inr ⟨by rfl, rfl⟩) (by assumption) ?_
              try simp only [Act.put, List.setIfInBounds_toArray, List.set_cons_zero, List.set_cons_succ]
              refine wpAnyH_take (i := 19) (oi := ⟨some 97, Op.call { callee := Callee.value (Operand.func 11), args := #[Operand.tmp 96], argTypes := #[27] }, 3, _, _, some (12, true)⟩) (v := undef) rfl (by kernel_rfl) (by kernel_rfl) (by kernel_rfl) (fun _ _ _ h => h) (Or.inr ⟨by rfl, rfl⟩) (by assumption) ?_
              try simp only [Act.put, List.setIfInBounds_toArray, List.set_cons_zero, List.set_cons_succ]
              refine wpAnyH_take (i := 20) (oi := ⟨some 98, Op.move (Operand.tmp 11), 23, _, _, some (12, true)⟩) (v := undef) rfl (by kernel_rfl) (by kernel_rfl) (by kernel_rfl) (fun _ _ _ h => h) (Or.inr ⟨by rfl, rfl⟩) (by assumption) ?_
              try simp only [Act.put, List.setIfInBounds_toArray, List.set_cons_zero, List.set_cons_succ]
              refine wpAnyH_take (i := 21) (oi := ⟨some 99, Op.move (Operand.tmp 15), 3, _, _, some (12, true)⟩) (v := undef) rfl (by kernel_rfl) (by kernel_rfl) (by kernel_rfl) (fun _ _ _ h => h) (Or.inr ⟨by rfl, rfl⟩) (by assumption) ?_
              try simp only [Act.put, List.setIfInBounds_toArray, List.set_cons_zero, List.set_cons_succ]
              refine wpAnyH_take (i := 22) (oi := ⟨some 100, Op.indexAddr 23 (Operand.tmp 98) (Operand.tmp 99), 0, _, _, some (12, true)⟩) (v := undef) rfl (by kernel_rfl) (by kernel_rfl) (by kernel_rfl) (fun _ _ _ h => h) (Or.inr ⟨by rfl, rfl⟩) (by assumption) ?_
              try simp only [Act.put, List.setIfInBounds_toArray, List.set_cons_zero, List.set_cons_succ]
              refine wpAnyH_take (i := 23) (oi := ⟨some 101, Op.load 27 (Operand.tmp 100), 27, _, _, some (12, true)⟩) (v := undef) rfl (by kernel_rfl) (by kernel_rfl) (by kernel_rfl) (fun _ _ _ h => h) (Or.inr ⟨by rfl, rfl⟩) (by assumption) ?_
              try simp only [Act.put, List.setIfInBounds_toArray, List.set_cons_zero, List.set_cons_succ]
              refine wpAnyH_take (i := 24) (oi := ⟨some 102, Op.call { callee := Callee.value (Operand.func 11), args := #[Operand.tmp 101], argTypes := #[27] }, 3, _, _, some (12, true)⟩) (v := undef) rfl (by kernel_rfl) (by kernel_rfl) (by kernel_rfl) (fun _ _ _ h => h) (Or.inr ⟨by rfl, rfl⟩) (by assumption) ?_
              try simp only [Act.put, List.setIfInBounds_toArray, List.set_cons_zero, List.set_cons_succ]
              refine wpAnyH_take (i := 25) (oi := ⟨some 103, Op.binOp BinOp.add 3 (Operand.tmp 97) (Operand.tmp 102) 3, 3, _, _, some (12, true)⟩) (v := undef) rfl (by kernel_rfl) (by kernel_rfl) (by kernel_rfl) (fun _ _ _ h => h) (Or.inr ⟨by rfl, rfl⟩) (by assumption) ?_
              try simp only [Act.put, List.setIfInBounds_toArray, List.set_cons_zero, List.set_cons_succ]
              refine wpAnyH_take (i := 26) (oi := ⟨some 104, Op.binOp BinOp.neq 3 (Operand.tmp 92) (Operand.tmp 103) 3, 4, _, _, some (12, true)⟩) (v := undef) rfl (by kernel_rfl) (by kernel_rfl) (by kernel_rfl) (fun _ _ _ h => h) (Or.inr ⟨by rfl, rfl⟩) (by assumption) ?_
              try simp only [Act.put, List.setIfInBounds_toArray, List.set_cons_zero, List.set_cons_succ]
              refine wpAnyH_take (i := 27) (oi := ⟨some 105, Op.pick (Operand.tmp 90) (Operand.tmp 104) (Operand.const (Value.bool false)), 4, _, _, some (9, false)⟩) (v := ?_) rfl (by kernel_rfl) (by kernel_rfl) (by kernel_rfl) (fun _ _ _ h => h) (Or.inl ⟨by rfl, ?_⟩) (by assumption) ?_
              rotate_left 1
              · (intro w hSw; (try dsimp only at hSw); go_simp; first | done | with_reducible rfl)
              try simp only [Act.put, List.setIfInBounds_toArray, List.set_cons_zero, List.set_cons_succ]
              refine wpAnyH_take (i := 28) (oi := ⟨some 106, Op.pick (Operand.tmp 87) (Operand.const (Value.bool true)) (Operand.tmp 105), 4, _, _, none⟩) (v := ?_) rfl (by kernel_rfl) (by kernel_rfl) (by kernel_rfl) (fun _ _ _ h => h) (Or.inl ⟨by rfl, ?_⟩) (by assumption) ?_
              rotate_left 1
              · (intro w hSw; (try dsimp only at hSw); go_simp; first | done | with_reducible rfl)
              try simp only [Act.put, List.setIfInBounds_toArray, List.set_cons_zero, List.set_cons_succ]
              refine wpAnyH_done (by kernel_rfl) ?_ _
              refine NoPanic.normal ?_
              go_wp2_with fail
              go_meet
              exact ⟨rfl, hv1⟩
          case rest =>
          obtain ⟨rfl, hs3⟩ := hcut
          rename World => wk3
          have HS3 := Lib.hid (Since.step HS2.out hs3)
          have HSF3 := Lib.hid (Since.step hSj.out HS3.out)
          have y0 := Since.cell hs3 y0
          have y1 := Since.cell hs3 y1
          have y2 := Since.cell hs3 y2
          clear c0 c1 c2 l0 l1 l2 x0 x1 x2 hSd K1 K2 K3 K4 hwz HSZ
          go_wp2_with fail
          refine (KN.out wk3 HS3.out).mono ?_
          rintro e v4 ⟨⟨s4, t4, u4, s5, t5, u5, s6, t6, u6⟩, rfl, hT4, hBa⟩
          simp only
          obtain ⟨V4, hV⟩ : ∃ V, V = World.alloc v4 (.cells #[.slice s4 t4 u4, .slice s5 t5 u5, .slice s6 t6 u6] 27) := ⟨_, rfl⟩
          have hSa : Since v4 V4 := by rw [hV]; exact Since.alloc (Since.refl _) _
          have hSb : Since wk3 V4 := Since.step hBa.out hSa
          have HX4 : Hid (BoxL v4.heap.size [.slice s4 t4 u4, .slice s5 t5 u5, .slice s6 t6 u6] V4) := Lib.hid (by rw [hV]; exact BoxL.made v4 _ _)
          have HT4 : Hid (TAt V4.heap.size V4 v (.slice s4 t4 u4) (.slice s5 t5 u5) (.slice s6 t6 u6)) := Lib.hid (TAt.below hSa (TS.tat (fun _ h => h.2) _ hT4.out))
          have HSF4 := Lib.hid (Since.step HSF3.out hSb)
          clear hT4 hBa hSa hSb KN y0 y1 y2 hs3 HS2
          go_upto_region 14 with (fail)
          rw [← hV]
          generalize v4.heap.size = MP at *
          clear hV
          by_cases hEt : Et = 0
          · by_cases hEp : Ep = 0
            · have HN5 := Lib.hid fun h => HNN.out hEt hEp h
              subst hEt
              subst hEp
              have HXO4 := Lib.hid (HXO.out.keep HSF4.out)
              have HTO4 := Lib.hid (TAt.below HSF4.out HTO.out)
              obtain ⟨c0, c1, c2, -⟩ := HXO4.out.open3
              obtain ⟨l0, l1, l2, -⟩ := HX4.out.open3
              clear HNN
              go_wp2_with fail
              refine (KU.out _ _ _ _ _ _ V4 HTO4.out HT4.out).mono ?_
              rintro e v5 ⟨⟨s7, t7, u7, s8, t8, u8, s9, t9, u9⟩, rfl, hT5, hBa⟩
              simp only
              obtain ⟨V5, hV⟩ : ∃ V, V = World.alloc v5 (.cells #[.slice s7 t7 u7, .slice s8 t8 u8, .slice s9 t9 u9] 27) := ⟨_, rfl⟩
              have hSa : Since v5 V5 := by rw [hV]; exact Since.alloc (Since.refl _) _
              have hSb : Since V4 V5 := Since.step hBa.out hSa
              have HX5 : Hid (BoxL v5.heap.size [.slice s7 t7 u7, .slice s8 t8 u8, .slice s9 t9 u9] V5) := Lib.hid (by rw [hV]; exact BoxL.made v5 _ _)
              have HT5 : Hid (TAt V5.heap.size V5 d (.slice s7 t7 u7) (.slice s8 t8 u8) (.slice s9 t9 u9)) := Lib.hid (TAt.below hSa (TS.tat (fun _ h => h.2) _ hT5.out))
              have HSF5 := Lib.hid (Since.step HSF4.out hSb)
              clear hT5 hBa hSa hSb KU c0 c1 c2 l0 l1 l2 HXO4 HTO4
              go_upto_region 16 with (fail)
              rw [← hV]
              generalize v5.heap.size = MD at *
              clear hV
              obtain ⟨c0, c1, c2, -⟩ := HX5.out.open3
              go_wp2_with fail
              refine (KD.out _ _ _ V5 HT5.out).mono ?_
              rintro e v6 ⟨⟨r1, a5, x1, r2, a6, x2, r3, a7, x3⟩, rfl, hT6, hBa⟩
              simp only
              obtain ⟨V6, hV⟩ : ∃ V, V = World.alloc v6 (.cells #[.slice r1 a5 x1, .slice r2 a6 x2, .slice r3 a7 x3] 27) := ⟨_, rfl⟩
              have hSa : Since v6 V6 := by rw [hV]; exact Since.alloc (Since.refl _) _
              have hSb : Since V5 V6 := Since.step hBa.out hSa
              have HX6 : Hid (BoxL v6.heap.size [.slice r1 a5 x1, .slice r2 a6 x2, .slice r3 a7 x3] V6) := Lib.hid (by rw [hV]; exact BoxL.made v6 _ _)
              have HT6 : Hid (TAt V6.heap.size V6 nd (.slice r1 a5 x1) (.slice r2 a6 x2) (.slice r3 a7 x3)) := Lib.hid (TAt.below hSa (TS.tat (fun _ h => h.2) _ hT6.out))
              have HX5 := Lib.hid (HX5.out.keep hSb)
              have HT5 := Lib.hid (TAt.below hSb HT5.out)
              have HSF6 := Lib.hid (Since.step HSF5.out hSb)
              clear hT6 hBa hSa hSb KD c0 c1 c2
              go_upto_region 17 with (fail)
              rw [← hV]
              generalize v6.heap.size = ME at *
              clear hV
              by_cases hE2 : E2 = 0
              · obtain ⟨h3, h4⟩ := HN5.out hE2
                subst hE2
                subst h3
                subst h4
                obtain ⟨c0, c1, c2, -⟩ := HX5.out.open3
                obtain ⟨l0, l1, l2, -⟩ := HX6.out.open3
                clear HN5
                go_wp2_with fail
                refine (KT.out _ _ _ _ _ _ V6 HT5.out HT6.out).mono ?_
                rintro e v7 ⟨rfl, hB7⟩
                have HSF7 := Lib.hid (Since.step HSF6.out hB7)
                clear hB7 c0 c1 c2 l0 l1 l2
                go_wp2
                go_roundw
                case rel => exact ⟨j + 1, by omega, by go_num, HSF7⟩
                case measure => simp [intOf]; omega
              · have hE3 : (E2 == 0) = false := beq_eq_false_iff_ne.2 hE2
                clear hE2
                go_wp2
                go_roundw
                case rel => exact ⟨j + 1, by omega, by go_num, HSF6⟩
                case measure => simp [intOf]; omega
            · have hEp2 : (Ep != 0) = true := bne_iff_ne.2 hEp
              subst hEt
              clear hEp
              go_wp2
              go_roundw
              case rel => exact ⟨j + 1, by omega, by go_num, HSF4⟩
              case measure => simp [intOf]; omega
          · have hEt2 : (Et != 0) = true := bne_iff_ne.2 hEt
            clear hEt
            go_wp2
            go_roundw
            case rel => exact ⟨j + 1, by omega, by go_num, HSF4⟩
            case measure => simp [intOf]; omega
        · have j4 : ¬ (j : Int) < 4 := by omega
          have p0 := Since.cell HSK.out HP0.out
          have p1 := Since.cell HSK.out HP1.out
          have p2 := Since.cell HSK.out HP2.out
          have KQ := Lib.hid fun (a b c a' b' c' : Value) W h1 h2 => rsame_any u u HU.out.1 HU.out.1 a b c a' b' c' W h1 h2
          simp only [decide_true] at KQ
          go_wp2_with fail
          refine (KA.out wk HSK.out).mono ?_
          rintro e v1 ⟨⟨s4, t4, u4, s5, t5, u5, s6, t6, u6⟩, rfl, hT1, hBa⟩
          simp only
          obtain ⟨V2, hV⟩ : ∃ V, V = World.alloc v1 (.cells #[.slice s4 t4 u4, .slice s5 t5 u5, .slice s6 t6 u6] 27) := ⟨_, rfl⟩
          have hSa : Since v1 V2 := by rw [hV]; exact Since.alloc (Since.refl _) _
          have hSb : Since wk V2 := Since.step hBa.out hSa
          have hX2 : BoxL v1.heap.size [.slice s4 t4 u4, .slice s5 t5 u5, .slice s6 t6 u6] V2 := by rw [hV]; exact BoxL.made v1 _ _
          have HT2 : Hid (TAt V2.heap.size V2 u (.slice s4 t4 u4) (.slice s5 t5 u5) (.slice s6 t6 u6)) := Lib.hid (TAt.below hSa (TS.tat (fun _ h => h.2) _ hT1.out))
          have HSF2 := Lib.hid (Since.step hSj.out hSb)
          have HTO2 := Lib.hid (TAt.below HSF2.out HTO.out)
          have HSO := Lib.hid (Since.step hS.out (Since.step HS1.out HSF2.out))
          obtain ⟨c0, c1, c2, -⟩ := (HXO.out.keep HSF2.out).open3
          obtain ⟨l0, l1, l2, -⟩ := hX2.open3
          clear hT1 hBa hSa hSb hX2 p0 p1 p2 KA
          go_upto_region 20 with (fail)
          rw [← hV]
          generalize v1.heap.size = MA at *
          clear hV
          go_wp2_with fail
          refine (KQ.out _ _ _ _ _ _ V2 HT2.out HTO2.out).mono ?_
          rintro e v7 ⟨rfl, hB7⟩
          have HSF7 := Lib.hid (Since.step HSO.out hB7)
          clear hB7 c0 c1 c2 l0 l1 l2
          go_wp2
          go_roundw
          case rel => exact ⟨i + 1, by omega, by go_num, HSF7⟩
          case measure => simp [intOf]; omega
    · have i4 : ¬ (i : Int) < 4 := by omega
      have HB := Lib.hid (Below.trans hB1.out (Below.mono hS.out hB1.out.size))
      have KL := Lib.hid (lives06_any wo)
      go_wp2_with fail
      refine KL.out.mono ?_
      rintro e w9 ⟨rfl, hr⟩
      have HB9 := Lib.hid (Below.trans HB.out (Below.mono hr HB.out.size))
      clear hr
      go_wp2
      go_ret
      exact ⟨rfl, HB9.out⟩

end Go.Proofs.YtelhpndlejommaaGreat
