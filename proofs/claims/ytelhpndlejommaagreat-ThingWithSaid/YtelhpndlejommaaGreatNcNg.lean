import Derived.Test.YtelhpndlejommaaGreatNaNb
import Derived.Test.YtelhpndlejommaaGreatYq
import Derived.Test.YtelhpndlejommaaGreatNeNf
/- The normal form of a thing turned round. -/
namespace Go.Proofs.YtelhpndlejommaaGreat
open Go.RowKit Go.Shelf

theorem Th.norms_append (b : List Th) : ∀ a : List Th, Th.norms (a ++ b) = (Th.norms a).bind fun x => (Th.norms b).map (x ++ ·)
  | [] => by rw [List.nil_append, Th.norms]; cases Th.norms b <;> rfl
  | t :: ts => by
    rw [List.cons_append, Th.norms, Th.norms, Th.norms_append b ts]
    cases t.norm with
    | none => rfl
    | some q =>
      cases Th.norms ts with
      | none => rfl
      | some x => cases Th.norms b <;> rfl

mutual
/-- What is turned round has the same normal form. -/
theorem Th.norm_turn : ∀ t : Th, t.turn.norm = t.norm
  | .mk cs vs ps => by
    rw [Th.turn, Th.norm, Th.norm, valsL_congr (us := vs) fun x => List.mem_reverse, ascI_congr (ds := cs) fun x => List.mem_reverse, Th.norms_turn ps]
    cases valsL vs [] with
    | none => rfl
    | some vl =>
      cases Th.norms ps with
      | none => rfl
      | some ql =>
        show some (Th.mk (ascI cs) vl (partsL ql.reverse)) = some (Th.mk (ascI cs) vl (partsL ql))
        rw [partsL_congr (List.reverse_perm ql)]
theorem Th.norms_turn : ∀ ts : List Th, Th.norms (Th.turnL ts) = (Th.norms ts).map List.reverse
  | [] => rfl
  | t :: ts => by
    rw [Th.turnL, Th.norms_append, Th.norms_turn ts, Th.norms, Th.norms, Th.norm_turn t, Th.norms]
    cases t.norm with
    | none => cases Th.norms ts <;> rfl
    | some q =>
      cases Th.norms ts with
      | none => rfl
      | some x => show some (x.reverse ++ [q]) = some (q :: x).reverse; rw [List.reverse_cons]
end

end Go.Proofs.YtelhpndlejommaaGreat

/- The reference's sorted: the normal form. -/
namespace Go.Proofs.YtelhpndlejommaaGreat
open Go.RowKit Go.Shelf

/-- What sorted leaves: the normal form in memory of its own, or nothing. -/
def SortOut (t : Th) (W : World) (e : Ending) (w' : World) : Prop :=
  ∃ r : Tr, e = .returned (.tuple #[.agg #[.slice r.a1 r.n1 r.c1, .slice r.a2 r.n2 r.c2, .slice r.a3 r.n3 r.c3], .bool t.norm.isSome]) ∧ Hid (Below W.heap.size W w') ∧ Hid (∀ u, t.norm = some u → TSr (fun k => (False ∨ W.heap.size ≤ k) ∧ k < w'.heap.size) w' u r) ∧ Hid (t.norm = none → r = ⟨none, 0, 0, none, 0, 0, none, 0, 0⟩)

theorem sort_fin {t : Th} {W w : World} {N1 N : Nat} {a1 a2 a3 : Option Addr} {n1 c1 n2 c2 n3 c3 : Nat} {cs : List Int} {vs : List Va} {rs : List Tr} {ps : List Th} (h1 : W.heap.size + 1 = N1) (h2 : W.heap.size + 2 = N) (hB : Below W.heap.size W w)
    (hO : OB (fun k => False ∨ N ≤ k) N N w (.slice a1 n1 c1) (.slice a2 n2 c2) (.slice a3 n3 c3) cs vs rs ps) (hn : t.norm = some (.mk cs vs ps)) :
    SortOut t W (.returned (.tuple #[.agg #[.slice a1 n1 c1, .slice a2 n2 c2, .slice a3 n3 c3], .bool true])) (put3 w N1 (.slice a1 n1 c1) (.slice a2 n2 c2) (.slice a3 n3 c3)) := by
  obtain ⟨u, r, he, hT, hu, hb⟩ := spoil_fin (S0 := fun _ => False) (P := fun u => u = .mk cs vs ps) h1 h2 (fun k hk => hk.elim) hB hO rfl
  obtain ⟨b1, m1, d1, b2, m2, d2, b3, m3, d3⟩ := r
  simp only [Ending.returned.injEq, Value.agg.injEq, Array.mk.injEq, List.cons.injEq, Value.slice.injEq, and_true] at he
  obtain ⟨⟨rfl, rfl, rfl⟩, ⟨rfl, rfl, rfl⟩, ⟨rfl, rfl, rfl⟩⟩ := he
  refine ⟨⟨a1, n1, c1, a2, n2, c2, a3, n3, c3⟩, by rw [hn]; rfl, hb, Lib.hid fun v hv => ?_, Lib.hid fun h => by rw [hn] at h; cases h⟩
  rw [hn] at hv
  injection hv with hv
  rw [← hv, ← hu.out]
  exact hT.out

theorem sort_no {t : Th} {W w : World} {N1 : Nat} (h1 : W.heap.size ≤ N1) (hB : Below W.heap.size W w) (hn : t.norm = none) :
    SortOut t W (.returned (.tuple #[.agg #[.slice none 0 0, .slice none 0 0, .slice none 0 0], .bool false])) (put3 w N1 (.slice none 0 0) (.slice none 0 0) (.slice none 0 0)) :=
  ⟨⟨none, 0, 0, none, 0, 0, none, 0, 0⟩, by rw [hn]; rfl, Lib.hid (put3_below hB h1 _ _ _), Lib.hid (fun u h => by rw [hn] at h; cases h), Lib.hid fun _ => rfl⟩

theorem ascI_snoc {cs : List Int} {k : Nat} {z : Int} (h : cs[k]? = some z) : ascI (cs.take (k + 1)) = putL z (ascI (cs.take k)) := by
  unfold ascI
  rw [List.take_add_one, h, List.foldl_append]
  rfl

theorem putL_ne (n : Int) (l : List Int) : putL n l ≠ [] := fun h => by
  have := (putL_mem n l n).2 (.inl rfl)
  rw [h] at this
  cases this

theorem valsL_append : ∀ (a b c : List Va), valsL (a ++ b) c = (valsL a c).bind (valsL b)
  | [], b, c => rfl
  | v :: a, b, c => by
    rw [List.cons_append, valsL, valsL]
    cases valL v c with
    | none => rfl
    | some d => exact valsL_append a b d

theorem valsL_snoc {vs : List Va} {k : Nat} {v : Va} {l : List Va} (h : vs[k]? = some v) (hl : valsL (vs.take k) [] = some l) : valsL (vs.take (k + 1)) [] = valL v l := by
  rw [List.take_add_one, h, valsL_append, hl]
  show (valL v l).bind (valsL []) = _
  cases valL v l <;> rfl

theorem valsL_stop {vs : List Va} {k : Nat} {v : Va} {l : List Va} (h : vs[k]? = some v) (hl : valsL (vs.take k) [] = some l) (hn : valL v l = none) : valsL vs [] = none := by
  have e : vs = vs.take (k + 1) ++ vs.drop (k + 1) := (List.take_append_drop _ _).symm
  rw [e, valsL_append, valsL_snoc h hl, hn]
  rfl

theorem valL_ne {v : Va} {l a : List Va} (h : valL v l = some a) : a ≠ [] := fun e => by
  have := (valL_mem v l a h v).2 (.inl rfl)
  rw [e] at this
  cases this

theorem norms_snoc {ps : List Th} {k : Nat} {u q : Th} {l : List Th} (h : ps[k]? = some u) (hl : Th.norms (ps.take k) = some l) (hq : u.norm = some q) : Th.norms (ps.take (k + 1)) = some (l ++ [q]) := by
  rw [List.take_add_one, h, Th.norms_append, hl]
  show ((Th.norms [u]).map (l ++ ·)) = _
  rw [Th.norms, hq]
  rfl

theorem norms_stop {ps : List Th} {k : Nat} {u : Th} {l : List Th} (h : ps[k]? = some u) (hl : Th.norms (ps.take k) = some l) (hq : u.norm = none) : Th.norms ps = none := by
  have e : ps = ps.take k ++ u :: ps.drop (k + 1) := by
    obtain ⟨h1, h2⟩ := List.getElem?_eq_some_iff.1 h
    rw [← h2, List.getElem_cons_drop, List.take_append_drop]
  rw [e, Th.norms_append, hl]
  show ((Th.norms (u :: _)).map (l ++ ·)) = none
  rw [Th.norms, hq]
  rfl

theorem partsL_snoc (l : List Th) (q : Th) : partsL (l ++ [q]) = partL q (partsL l) := by
  unfold partsL
  rw [List.foldl_append]
  rfl

theorem norm_of {t : Th} {vl : List Va} {ql : List Th} (h1 : valsL t.vs [] = some vl) (h2 : Th.norms t.ps = some ql) : t.norm = some (.mk (ascI t.cs) vl (partsL ql)) := by
  cases t
  rw [Th.norm]
  simp only [Th.vs, Th.ps] at h1 h2
  rw [h1, h2]
  rfl

theorem norm_noV {t : Th} (h1 : valsL t.vs [] = none) : t.norm = none := by
  cases t
  rw [Th.norm]
  simp only [Th.vs] at h1
  rw [h1]
  rfl

theorem norm_noP {t : Th} (h2 : Th.norms t.ps = none) : t.norm = none := by
  cases t
  rw [Th.norm]
  simp only [Th.ps] at h2
  rw [h2]
  cases valsL _ [] <;> rfl

theorem Lie.ins {S : Nat → Prop} {w : World} {rs : List Tr} {ps : List Th} (h : Lie S w rs ps) (k : Nat) {r : Tr} {t : Th} (hT : TS (fun k => S k ∧ k < w.heap.size) w t (.slice r.a1 r.n1 r.c1) (.slice r.a2 r.n2 r.c2) (.slice r.a3 r.n3 r.c3)) : Lie S w (rs.take k ++ r :: rs.drop k) (ps.take k ++ t :: ps.drop k) := by
  have h1 := h.1
  have hl : (rs.take k).length = (ps.take k).length := by rw [List.length_take, List.length_take, h1]
  refine ⟨by simp [h1], fun j r' t' hr ht => ?_⟩
  by_cases hj : j < (ps.take k).length
  · rw [List.getElem?_append_left (by rw [hl]; exact hj)] at hr
    rw [List.getElem?_append_left hj] at ht
    rw [List.getElem?_take] at hr ht
    split at hr
    · rw [if_pos (by assumption)] at ht
      exact h.2 j r' t' hr ht
    · cases hr
  · rw [List.getElem?_append_right (by rw [hl]; omega), hl] at hr
    rw [List.getElem?_append_right (by omega)] at ht
    generalize j - (ps.take k).length = i at *
    cases i with
    | zero =>
      simp at hr ht
      subst hr
      subst ht
      exact hT
    | succ i =>
      rw [List.getElem?_cons_succ, List.getElem?_drop] at hr ht
      exact h.2 _ r' t' hr ht

/-- The things of rows are readable. -/
theorem Lie.rd3 {S : Nat → Prop} {w : World} {rs : List Tr} {ps : List Th} (h : Lie S w rs ps) : Rd3 w rs ps := ⟨h.1, fun j r t hr ht => TS.tat (fun _ hb => hb.2) t (h.2 j r t hr ht)⟩

def RSortK (m : Nat) : Prop := ∀ (t : Th), t.size ≤ m → t.wf → t.wt ≤ 100000 → ∀ (a b c : Value) (W : World), TAt W.heap.size W t a b c →
  Calls Tryz.prog 20 #[.agg #[a, b, c]] W (SortOut t W)

set_option maxHeartbeats 8000000 in
set_option maxRecDepth 100000 in
theorem rsort_step (M : Nat) (K : Hid (RSortK M)) : RSortK (M + 1) := by
  intro t ht hwf hwt a b c W hT
  obtain ⟨a1, c1, a2, c2, a3, c3, rfl, rfl, rfl, hE1, hE2, hP, hL1, hL2⟩ := hT.shape
  have hwp := ((Th.wf_eq t).1 hwf).2
  have hsz := t.size_eq
  have hwe := t.wt_eq
  have hpl := Th.wts_len t.ps
  have hws : Th.sizes t.ps ≤ 100000 := by have := t.size_eq; have := Th.size_wt t; omega
  have KS := Lib.hid fun (u : Th) (hu : u ∈ t.ps) (a b c : Value) W h => K.out u (by have := Th.sizes_mem hu; omega) (hwp u hu) (by have := Th.wts_mem hu; omega) a b c W h
  have HOF := Lib.hid fun (vl : List Va) (ql : List Th) h1 h2 => norm_of (t := t) (vl := vl) (ql := ql) h1 h2
  have HNV := Lib.hid fun h => norm_noV (t := t) h
  have HNP := Lib.hid fun h => norm_noP (t := t) h
  have HCO : Hid (∀ k ql, Th.norms (t.ps.take k) = some ql → ∀ q ∈ partsL ql, CmpOk q) := Lib.hid fun k ql hq q hm => by
    obtain ⟨f1, -, f3, -⟩ := Th.norms_facts _ _ hq
    have hq2 := (partsL_perm ql).mem_iff.1 hm
    refine ⟨f3 (fun u hu => hwp u (List.mem_of_mem_take hu)) q hq2, ?_⟩
    have := Th.sizes_mem hq2
    have := Th.sizes_take t.ps k
    omega
  have HCQ : Hid (∀ u ∈ t.ps, ∀ q, u.norm = some q → CmpOk q) := Lib.hid fun u hu q hq => by
    obtain ⟨f1, -, f3, -⟩ := Th.norm_facts _ _ hq
    have := Th.sizes_mem hu
    exact ⟨f3 (hwp u hu), by omega⟩
  generalize t.cs = cs at *
  generalize t.vs = vs at *
  generalize t.ps = ps at *
  have hn1 : cs.length ≤ 100000 := by omega
  have hn2 : vs.length ≤ 100000 := by omega
  have hn3 : ps.length ≤ 100000 := by omega
  obtain ⟨W2, hW2⟩ : ∃ W2, W2 = (W.alloc (.cells #[.slice a1 cs.length c1, .slice a2 vs.length c2, .slice a3 ps.length c3] 27)).alloc (.cells #[.slice none 0 0, .slice none 0 0, .slice none 0 0] 27) := ⟨_, rfl⟩
  have hB2 : Below W.heap.size W W2 := by rw [hW2]; exact ((Below.refl _ _).alloc (Nat.le_refl _) _).alloc (by simp) _
  have hX : BoxL W.heap.size [.slice a1 cs.length c1, .slice a2 vs.length c2, .slice a3 ps.length c3] W2 := by rw [hW2]; exact (BoxL.made W _ _).under _
  have hR : BoxL (W.heap.size + 1) [.slice none 0 0, .slice none 0 0, .slice none 0 0] W2 := by
    rw [hW2]
    have := BoxL.made (W.alloc (.cells #[.slice a1 cs.length c1, .slice a2 vs.length c2, .slice a3 ps.length c3] 27)) #[.slice none 0 0, .slice none 0 0, .slice none 0 0] 27
    rwa [World.size_alloc] at this
  have hsz2 : W2.heap.size = W.heap.size + 1 + 1 := by rw [hW2, World.size_alloc, World.size_alloc]
  obtain ⟨W3, hW3⟩ : ∃ W3, W3 = W2.alloc (.cells #[.slice none 0 0, .slice none 0 0, .slice none 0 0] 27) := ⟨_, rfl⟩
  have hS3 : Since W2 W3 := by rw [hW3]; exact (Below.refl _ _).alloc (Nat.le_refl _) _
  have hO3 : OB (fun k => False ∨ W.heap.size + 1 + 1 ≤ k) (W.heap.size + 1 + 1) (W.heap.size + 1 + 1) W3 (.slice none 0 0) (.slice none 0 0) (.slice none 0 0) [] [] [] [] := by rw [hW3, ← hsz2]; exact OB.new _ _ _ (Nat.le_refl _)
  have hBs : ∀ w, Since W2 w → Below W.heap.size W w := fun w h => hB2.trans (Below.mono h hB2.size)
  have HFN := Lib.hid fun (w : World) (b1 b2 b3 : Option Addr) (l1 d1 l2 d2 l3 d3 : Nat) cs' vs' rs' ps' h hS hn => sort_fin (t := t) (W := W) (w := w) (N1 := W.heap.size + 1) (N := W.heap.size + 1 + 1) (a1 := b1) (a2 := b2) (a3 := b3) (n1 := l1) (c1 := d1) (n2 := l2) (c2 := d2) (n3 := l3) (c3 := d3) (cs := cs') (vs := vs') (rs := rs') (ps := ps') rfl rfl (hBs w hS) h hn
  have HNO := Lib.hid fun (w : World) hS hn => sort_no (t := t) (W := W) (w := w) (N1 := W.heap.size + 1) (by omega) (hBs w hS) hn
  have HC1 := Lib.hid fun (w : World) (hS : Since W2 w) => hE1.low hL1 (hBs w hS)
  have HC2 := Lib.hid fun (w : World) (hS : Since W2 w) => hE2.low hL2 (hBs w hS)
  have HC3 := Lib.hid fun (w : World) (hS : Since W2 w) => Ps.below (hBs w hS) hP
  have HX := Lib.hid hX
  have HR := Lib.hid hR
  have HS3 := Lib.hid hS3
  have HO3 := Lib.hid hO3
  have HSZ := Lib.hid hsz2
  generalize hc1 : cs.length = n1 at *
  generalize hc2 : vs.length = n2 at *
  generalize hc3 : ps.length = n3 at *
  have HN1 := Lib.hid hc1
  have HN2 := Lib.hid hc2
  have HN3 := Lib.hid hc3
  clear hX hR hS3 hO3 hsz2 hP hE1 hE2 hL1 hL2 hT hwf hB2 ht hsz hwe hpl hwp hwt K hBs hc1 hc2 hc3 hws
  go_enter Tryz.func20, Tryz.ntmps20
  go_upto_region 2 with (fail)
  rw [← hW2, ← hW3]
  clear hW2 hW3
  generalize hN2 : W.heap.size + 1 + 1 = N at *
  generalize hN1 : W.heap.size + 1 = N1 at *
  clear hN1 hN2
  go_wp2
  go_loopw [5] (fun v wr => ∃ (k : Nat) (b1 : Option Addr) (m1 d1 : Nat), k ≤ n1 ∧ v = .int .i64 k ∧ Hid (OB (fun k => False ∨ N ≤ k) N N wr (.slice b1 m1 d1) (.slice none 0 0) (.slice none 0 0) (ascI (cs.take k)) [] [] []) ∧ Hid (ascI (cs.take k) = [] → (.slice b1 m1 d1 : Value) = .slice none 0 0) ∧ Hid (Since W2 wr)) (fun v _ => n1 - (intOf v).toNat)
  case atStart => exact ⟨0, none, 0, 0, by omega, rfl, HO3, Lib.hid fun _ => rfl, HS3⟩
  case round =>
    clear HO3 HS3
    obtain ⟨k, b1, m1, d1, hk, rfl, hO, hZ, hS⟩ := hrel
    obtain ⟨p0, p1, p2, -⟩ := (HX.out.keep hS.out).open3
    by_cases hlt : k < n1
    · have i1 : (k : Int) < n1 := by omega
      have i4 : ((k : Int)).toNat = k := by omega
      obtain ⟨x0, x1, x2, f0, f1, f2, -⟩ := hO.out.box.open3
      obtain ⟨g, o, rfl, e0⟩ := (HC1.out _ hS.out).at k (by omega)
      have hx : cs[k]? = some (cs[k]?.getD 0) := by rw [List.getElem?_eq_getElem (by have := HN1.out; omega)]; rfl
      generalize cs[k]?.getD 0 = z at *
      have HST := Lib.hid (ascI_snoc hx)
      have hSd : Since wr wr.drew := Below.drew (Below.refl _ _)
      have HOA := Lib.hid (hO.out.frame hSd)
      have hzB : N ≤ wr.drew.heap.size := Nat.le_trans (by rw [← HSZ.out]; exact hS.out.size) hSd.size
      have hl1 : (ascI (cs.take k)).length ≤ 1000000 := by have h1 := ascI_len (cs.take k); rw [List.length_take] at h1; omega
      have KP := Lib.hid (put_any _ _ z N wr.drew (rin_own HOA.out.oa) hZ.out hzB hl1)
      clear hx hzB hl1
      go_upto_region 5 with (fail)
      go_region_law ((go_simp; refine KP.out.mono ?_; rintro e wn ⟨ak, lk, ck, rfl, hOn, hPn, hBn⟩; dsimp only; obtain ⟨y0, y1, y2, g0, g1, g2, -⟩ := (HOA.out.there1 hPn.out).open3))
      all_goals
        have HO7 : Hid (OB (fun k => False ∨ N ≤ k) N N (wn.setCell ⟨N, 0, none⟩ (.slice ak lk ck)) (.slice ak lk ck) (.slice none 0 0) (.slice none 0 0) (ascI (cs.take (k + 1))) [] [] []) := Lib.hid (by rw [HST.out]; exact HOA.out.set1 hPn.out (own_rin hOn.out))
        have HZ7 : Hid (ascI (cs.take (k + 1)) = [] → (.slice ak lk ck : Value) = .slice none 0 0) := Lib.hid fun h => by rw [HST.out] at h; exact absurd h (putL_ne _ _)
        have HS7 : Hid (Since W2 (wn.setCell ⟨N, 0, none⟩ (.slice ak lk ck))) := Lib.hid (since_put HSZ.out (Since.step hS.out hSd) (hBn.out.mono (Nat.le_of_lt HOA.out.box.1)) _ _)
        go_wp2
        go_roundw
        case rel => exact ⟨k + 1, ak, lk, ck, by omega, by go_num, HO7, HZ7, HS7⟩
        case measure => simp [intOf] <;> omega
    · have i1 : ¬ (k : Int) < n1 := by omega
      have hk1 : cs.take k = cs := List.take_of_length_le (by rw [HN1.out]; omega)
      have HO1 := Lib.hid hO.out
      rw [hk1] at HO1
      have HS1 := hS
      have HE0 : Hid (valsL (vs.take 0) [] = some []) := Lib.hid rfl
      clear hO hS HC1 hZ hk1
      go_wp2
      clear p0 p1 p2
      rename World => wo1
      go_loopw [6] (fun v wr => ∃ (k : Nat) (b2 : Option Addr) (m2 d2 : Nat) (vl : List Va), k ≤ n2 ∧ v = .int .i64 k ∧ Hid (valsL (vs.take k) [] = some vl) ∧ Hid (OB (fun k => False ∨ N ≤ k) N N wr (.slice b1 m1 d1) (.slice b2 m2 d2) (.slice none 0 0) (ascI cs) vl [] []) ∧ Hid (vl = [] → (.slice b2 m2 d2 : Value) = .slice none 0 0) ∧ Hid (Since W2 wr)) (fun v _ => n2 - (intOf v).toNat)
      case atStart => exact ⟨0, none, 0, 0, [], by omega, rfl, HE0, HO1, Lib.hid fun _ => rfl, HS1⟩
      case round =>
        clear HO1 HS1
        obtain ⟨k, b2, m2, d2, vl, hk, rfl, hV, hO, hZ, hS⟩ := hrel
        obtain ⟨p0, p1, p2, -⟩ := (HX.out.keep hS.out).open3
        by_cases hlt : k < n2
        · have i1 : (k : Int) < n2 := by omega
          have i4 : ((k : Int)).toNat = k := by omega
          obtain ⟨x0, x1, x2, f0, f1, f2, -⟩ := hO.out.box.open3
          obtain ⟨v, hv⟩ : ∃ v, vs[k]? = some v := ⟨vs[k]'(by rw [HN2.out]; omega), List.getElem?_eq_getElem _⟩
          have hEw := HC2.out _ hS.out
          obtain ⟨g, rfl, -⟩ := hEw.get (j := k) (by omega)
          obtain ⟨e0, e1, e2, -⟩ := va_at hEw hv
          have hSd : Since wr wr.drew := Below.drew (Below.refl _ _)
          have HOA := Lib.hid (hO.out.frame hSd)
          have hzB : N ≤ wr.drew.heap.size := Nat.le_trans (by rw [← HSZ.out]; exact hS.out.size) hSd.size
          have hl1 : vl.length ≤ 1000000 := by have h1 := valsL_len _ _ _ hV.out; rw [List.length_take] at h1; simp at h1; omega
          have kv := value_any _ _ v N wr.drew HOA.out.ob hZ.out hzB hl1
          cases hr : valL v vl with
          | none =>
            have HNN := Lib.hid (HNV.out (valsL_stop hv hV.out hr))
            rw [hr] at kv
            unfold Va.v at kv
            have KV := Lib.hid kv
            obtain ⟨vt, vn, vd⟩ := v
            simp only at e0 e1 e2 KV
            obtain ⟨z0, z1, z2, zf0, zf1, zf2, -⟩ := (HR.out.keep hS.out).open3
            clear kv hr hv hEw hzB hl1
            go_upto_region 9 with (fail)
            go_region_law ((go_simp; refine KV.out.mono ?_; rintro e wn ⟨ak, lk, ck, rfl, hBn, hOn⟩; dsimp only))
            all_goals
              have hSn : Since wr wn := Since.step hSd hBn.out
              have hS9 : Since W2 wn := Since.step hS.out hSn
              have HFI := Lib.hid (HNO.out wn hS9 HNN.out)
              obtain ⟨z0, z1, z2, zf0, zf1, zf2, -⟩ := (HR.out.keep hS9).open3
              unfold put3 at HFI
              clear hSn hS9
              go_wp2
              exact bodyPost_ret (v := .tuple #[.agg #[.slice none 0 0, .slice none 0 0, .slice none 0 0], .bool false]) (by simp [results, Tryz.results20, go_sem, z0, z1, z2]) rfl HFI.out
          | some l =>
            have HV7 := Lib.hid ((valsL_snoc hv hV.out).trans hr)
            have HZ7 : Hid (l ≠ []) := Lib.hid (valL_ne hr)
            rw [hr] at kv
            unfold Va.v at kv
            have KV := Lib.hid kv
            obtain ⟨vt, vn, vd⟩ := v
            simp only at e0 e1 e2 KV
            clear kv hr hv hEw hzB hl1
            go_upto_region 9 with (fail)
            go_region_law ((go_simp; refine KV.out.mono ?_; rintro e wn ⟨ak, lk, ck, rfl, hBn, hOn⟩; dsimp only))
            all_goals
              have hSn : Since wr wn := Since.step hSd hBn.out
              have hS9 : Since W2 wn := Since.step hS.out hSn
              have hOl := (hOn.out l rfl)
              obtain ⟨y0, y1, y2, g0, g1, g2, -⟩ := (HOA.out.there2 hOl.2).open3
              have HO7 : Hid (OB (fun k => False ∨ N ≤ k) N N (wn.setCell ⟨N, 1, none⟩ (.slice ak lk ck)) (.slice b1 m1 d1) (.slice ak lk ck) (.slice none 0 0) (ascI cs) l [] []) := Lib.hid (HOA.out.set2 hOl.2 hOl.1)
              have HS7 : Hid (Since W2 (wn.setCell ⟨N, 1, none⟩ (.slice ak lk ck))) := Lib.hid (since_put HSZ.out (Since.step hS.out hSd) (hBn.out.mono (Nat.le_of_lt HOA.out.box.1)) _ _)
              clear hSn hS9 hOl
              go_wp2
              go_roundw
              case rel => exact ⟨k + 1, ak, lk, ck, l, by omega, by go_num, HV7, HO7, Lib.hid fun h => absurd h HZ7.out, HS7⟩
              case measure => simp [intOf] <;> omega
        · have i1 : ¬ (k : Int) < n2 := by omega
          have hk1 : vs.take k = vs := List.take_of_length_le (by rw [HN2.out]; omega)
          have HO1 := hO
          have HV1 := Lib.hid hV.out
          rw [hk1] at HV1
          have HS1 := hS
          have HE0 : Hid (Th.norms (ps.take 0) = some []) := Lib.hid rfl
          clear hO hS HC2 hZ hk1 hV
          go_wp2
          clear p0 p1 p2
          rename World => wo2
          go_loopw [9] (fun v wr => ∃ (k : Nat) (b3 : Option Addr) (m3 d3 : Nat) (ql : List Th) (rs : List Tr), k ≤ n3 ∧ v = .int .i64 k ∧ Hid (Th.norms (ps.take k) = some ql) ∧ Hid (OB (fun k => False ∨ N ≤ k) N N wr (.slice b1 m1 d1) (.slice b2 m2 d2) (.slice b3 m3 d3) (ascI cs) vl rs (partsL ql)) ∧ Hid (rs = [] → (.slice b3 m3 d3 : Value) = .slice none 0 0) ∧ Hid (Since W2 wr)) (fun v _ => n3 - (intOf v).toNat)
          case atStart => exact ⟨0, none, 0, 0, [], [], by omega, rfl, HE0, HO1, Lib.hid fun _ => rfl, HS1⟩
          case round =>
            clear HO1 HS1
            obtain ⟨k, b3, m3, d3, ql, rs, hk, rfl, hQ, hO, hZ, hS⟩ := hrel
            obtain ⟨p0, p1, p2, -⟩ := (HX.out.keep hS.out).open3
            by_cases hlt : k < n3
            · have i1 : (k : Int) < n3 := by omega
              have i4 : ((k : Int)).toNat = k := by omega
              obtain ⟨x0, x1, x2, f0, f1, f2, -⟩ := hO.out.box.open3
              obtain ⟨g, u, rfl, -, -, -, hu, v1, v2, v3, e0, e1, e2, hTu⟩ := (HC3.out wr hS.out).get (j := k) (by omega)
              have hum := List.mem_of_getElem? hu
              have kq := KS.out u hum _ _ _ wr hTu
              obtain ⟨⟨q1, r1, y1, q2, r2, y2, q3, r3, y3⟩, rfl, rfl, rfl, -⟩ := (TAt.ts u hTu).shape
              simp only at e0 e1 e2 kq
              cases hn : u.norm with
              | none =>
                have HNN := Lib.hid (HNP.out (norms_stop hu hQ.out hn))
                unfold SortOut at kq
                rw [hn] at kq
                have KQ := Lib.hid kq
                clear kq hn hu hum hTu
                go_upto_region 16 with (fail)
                go_wp2_with fail
                refine KQ.out.mono ?_
                rintro e wn ⟨⟨s1, t1, u1, s2, t2, u2, s3, t3, u3⟩, rfl, hBn, hOn, hNn⟩
                simp only
                have hSa : Since wr (wn.alloc (.cells #[.slice s1 t1 u1, .slice s2 t2 u2, .slice s3 t3 u3] 27)) := Since.alloc hBn.out _
                have hS9 : Since W2 (wn.alloc (.cells #[.slice s1 t1 u1, .slice s2 t2 u2, .slice s3 t3 u3] 27)) := Since.step hS.out hSa
                have HFI := Lib.hid (HNO.out _ hS9 HNN.out)
                obtain ⟨z0, z1, z2, zf0, zf1, zf2, -⟩ := (HR.out.keep hS9).open3
                unfold put3 at HFI
                clear hSa hS9
                go_wp2
                exact bodyPost_ret (v := .tuple #[.agg #[.slice none 0 0, .slice none 0 0, .slice none 0 0], .bool false]) (by simp [results, Tryz.results20, go_sem, z0, z1, z2]) rfl HFI.out
              | some q =>
                have HQ7 := Lib.hid (norms_snoc hu hQ.out hn)
                have HCQ2 := Lib.hid (HCQ.out u hum q hn)
                have HCO2 := Lib.hid (HCO.out k ql hQ.out)
                unfold SortOut at kq
                rw [hn] at kq
                have KQ := Lib.hid kq
                have hln : rs.length ≤ 1000000 := by
                  have h1 := hO.out.lie.1
                  have h2 := (partsL_perm ql).length_eq
                  have h3 : ql.length ≤ k := by
                    have : ∀ (a b : List Th), Th.norms a = some b → b.length = a.length := by
                      intro a
                      induction a with
                      | nil => intro b h; rw [Th.norms] at h; cases h; rfl
                      | cons x a ih =>
                        intro b h
                        rw [Th.norms] at h
                        obtain ⟨y, -, h⟩ := Option.bind_eq_some_iff.1 h
                        obtain ⟨z, hz, rfl⟩ := Option.map_eq_some_iff.1 h
                        simp [ih z hz]
                    have := this _ _ hQ.out
                    rw [List.length_take] at this
                    omega
                  omega
                clear kq hn hu hum hTu
                go_upto_region 16 with (fail)
                go_wp2_with fail
                refine KQ.out.mono ?_
                rintro e wn ⟨⟨s1, t1, u1, s2, t2, u2, s3, t3, u3⟩, rfl, hBn, hOn, hNn⟩
                simp only
                obtain ⟨w3, hw3⟩ : ∃ w3, w3 = wn.alloc (.cells #[.slice s1 t1 u1, .slice s2 t2 u2, .slice s3 t3 u3] 27) := ⟨_, rfl⟩
                have hSa : Since wr w3 := by rw [hw3]; exact Since.alloc hBn.out _
                have hS9 : Since W2 w3 := Since.step hS.out hSa
                have hX9 : BoxL wn.heap.size [.slice s1 t1 u1, .slice s2 t2 u2, .slice s3 t3 u3] w3 := by rw [hw3]; exact BoxL.made _ _ _
                have HOA := Lib.hid (hO.out.frame hSa)
                have hT9 := hOn.out q rfl
                have HPT := Lib.hid (show TS (fun k => Free (fun k => False ∨ N ≤ k) N (.slice b1 m1 d1) (.slice b2 m2 d2) (.slice b3 m3 d3) k ∧ k < w3.heap.size) w3 q (.slice s1 t1 u1) (.slice s2 t2 u2) (.slice s3 t3 u3) by rw [hw3]; exact turn_part (r := ⟨s1, t1, u1, s2, t2, u2, s3, t3, u3⟩) hO.out HSZ.out hS.out _ hT9)
                have KP := Lib.hid (part_any _ _ _ ⟨s1, t1, u1, s2, t2, u2, s3, t3, u3⟩ q w3 HOA.out.oc.els hZ.out HOA.out.lie.rd3 (TS.tat (fun _ hb => hb.2) q HPT.out) HCO2.out HCQ2.out hln)
                obtain ⟨o0, o1, o2, -⟩ := hX9.open3
                obtain ⟨x0, x1, x2, f0, f1, f2, -⟩ := HOA.out.box.open3
                have HSA := Lib.hid hSa
                have HS9 := Lib.hid hS9
                simp only at KP
                clear hSa hS9 hX9 hT9 hOn hNn p0 p1 p2 e0 e1 e2
                go_upto_region 17 with (fail)
                rw [← hw3]
                generalize wn.heap.size = N9 at *
                clear hw3
                go_wp2_with fail
                refine KP.out.mono ?_
                rintro e wm ⟨ak, lk, ck, j, rfl, hj, hOm, hBm⟩
                have hPm : PF (.slice b3 m3 d3) w3 wm (.slice ak lk ck) := PF.fresh hBm.out fun g e => (hOm.out.lt g e).1
                obtain ⟨y0, y1, y2, g0, g1, g2, -⟩ := (HOA.out.there3 hPm).open3
                have HL9 := Lib.hid (HOA.out.lie.ins j (r := ⟨s1, t1, u1, s2, t2, u2, s3, t3, u3⟩) HPT.out)
                have HO7 : Hid (OB (fun k => False ∨ N ≤ k) N N (wm.setCell ⟨N, 2, none⟩ (.slice ak lk ck)) (.slice b1 m1 d1) (.slice b2 m2 d2) (.slice ak lk ck) (ascI cs) vl (rs.take j ++ ⟨s1, t1, u1, s2, t2, u2, s3, t3, u3⟩ :: rs.drop j) (partsL (ql ++ [q]))) := Lib.hid (by rw [partsL_snoc, hj.out.2]; exact HOA.out.set3 hPm (hOm.out.base (by have := HOA.out.hB; have := HOA.out.box.1; omega)) HL9.out)
                have HS7 : Hid (Since W2 (wm.setCell ⟨N, 2, none⟩ (.slice ak lk ck))) := Lib.hid (since_put HSZ.out HS9.out (hBm.out.mono (Nat.le_of_lt HOA.out.box.1)) _ _)
                clear hPm hj
                go_wp2
                go_roundw
                case rel => exact ⟨k + 1, ak, lk, ck, ql ++ [q], _, by omega, by go_num, HQ7, HO7, Lib.hid fun h => by simp at h, HS7⟩
                case measure => simp [intOf] <;> omega
            · have i1 : ¬ (k : Int) < n3 := by omega
              have hk1 : ps.take k = ps := List.take_of_length_le (by rw [HN3.out]; omega)
              have hQ1 := hQ.out
              rw [hk1] at hQ1
              have hfin := HFN.out _ _ _ _ _ _ _ _ _ _ _ _ _ _ hO.out hS.out (HOF.out vl ql HV1.out hQ1)
              obtain ⟨z0, z1, z2, zf0, zf1, zf2, -⟩ := (HR.out.keep hS.out).open3
              obtain ⟨x0, x1, x2, f0, f1, f2, -⟩ := hO.out.box.open3
              unfold put3 at hfin
              have HFI := Lib.hid hfin
              clear hfin hk1 hQ1
              go_wp2
              exact bodyPost_ret (v := .tuple #[.agg #[.slice b1 m1 d1, .slice b2 m2 d2, .slice b3 m3 d3], .bool true]) (by simp [results, Tryz.results20, go_sem, z0, z1, z2]) rfl HFI.out

theorem rsort_all : ∀ M : Nat, RSortK M
  | 0 => fun u hu => by have := u.size_pos; omega
  | M + 1 => rsort_step M (Lib.hid (rsort_all M))

end Go.Proofs.YtelhpndlejommaaGreat

