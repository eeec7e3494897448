/- The laws' turned. -/
import Derived.Test.YtelhpndlejommaaGreatYk
import Derived.Test.YtelhpndlejommaaGreatCaCc
import Derived.Deep.RegionLaw
namespace Go.Proofs.YtelhpndlejommaaGreat
open Go.RowKit Go.Shelf

mutual
/-- Everything in the opposite order. -/
def Th.turn : Th → Th
  | .mk cs vs ps => .mk cs.reverse vs.reverse (Th.turnL ps)
def Th.turnL : List Th → List Th
  | [] => []
  | t :: ts => Th.turnL ts ++ [t.turn]
end

theorem Th.turnL_eq (ts : List Th) : Th.turnL ts = (ts.map Th.turn).reverse := by
  induction ts with
  | nil => rfl
  | cons t ts ih => rw [Th.turnL, ih, List.map_cons, List.reverse_cons]

theorem Th.turn_eq (t : Th) : t.turn = .mk t.cs.reverse t.vs.reverse (t.ps.map Th.turn).reverse := by
  cases t
  rw [Th.turn, Th.turnL_eq]
  rfl

mutual
theorem Th.turn_wt : ∀ t : Th, t.turn.wt = t.wt
  | .mk cs vs ps => by
    rw [Th.turn, Th.wt, Th.wt, Th.turnL_wt ps, List.length_reverse, List.length_reverse]
theorem Th.turnL_wt : ∀ ts : List Th, Th.wts (Th.turnL ts) = Th.wts ts
  | [] => rfl
  | t :: ts => by
    rw [Th.turnL, Th.wts_append, Th.turnL_wt ts, Th.wts, Th.wts, Th.wts, Th.turn_wt t]
    omega
end

mutual
theorem Th.turn_wf : ∀ t : Th, t.wf → t.turn.wf
  | .mk cs vs ps, h => by
    rw [Th.turn]
    obtain ⟨⟨⟨c1, c2⟩, c3, c4⟩, c5⟩ := (Th.wf_eq _).1 h
    refine (Th.wf_eq _).2 ⟨⟨⟨fun z hz => c1 z (List.mem_reverse.1 hz), ?_⟩, fun v hv => c3 v (List.mem_reverse.1 hv), ?_⟩, Th.turnL_wf ps c5⟩
    · show cs.reverse.length ≤ _
      rw [List.length_reverse]; exact c2
    · show vs.reverse.length ≤ _
      rw [List.length_reverse]; exact c4
theorem Th.turnL_wf : ∀ ts : List Th, (∀ t ∈ ts, t.wf) → ∀ t ∈ Th.turnL ts, t.wf
  | [], _, t, ht => by cases ht
  | u :: us, h, t, ht => by
    rw [Th.turnL] at ht
    rcases List.mem_append.1 ht with ht | ht
    · exact Th.turnL_wf us (fun x hx => h x (List.mem_cons_of_mem _ hx)) t ht
    · rw [List.mem_singleton.1 ht]
      exact Th.turn_wf u (h u (List.mem_cons_self ..))
end

theorem rev_step {α : Type} {l : List α} {k : Nat} {x : α} (h : l[k]? = some x) : (l.drop k).reverse = (l.drop (k + 1)).reverse ++ [x] := by
  obtain ⟨h1, h2⟩ := List.getElem?_eq_some_iff.1 h
  rw [List.drop_eq_getElem_cons h1, List.reverse_cons, h2]

/-- One row's element appended, as a step of a region that draws its order. -/
theorem step_row1_f {P : Program} {ops : Array Oper} {o : Oper} {act : Act} {K : Act → World → Prop} {Q : Exit → Act → World → Prop} {E : Prop} {w : World} (hgd : o.guard = none) (s x : Operand) (t : TypeId)
    (ho : o.op = .call { callee := .builtin .append, args := #[s, x], argTypes := #[t, t] }) {α : Type} (R : RowOf α) (e : TypeId) (bytes : Nat) (z : Value) (ht : P.underlying t = some (.slice e))
    (info : (P.info? e).map (fun i => (i.zero, i.size, i.bytes)) = some (some z, R.k, bytes)) (hzc : z.cells.size = R.k) (hby : bytes ≤ 1000) (B : Nat) (v : Value) (xs ns : List α) (b m c0 : Nat) (hm : m = ns.length)
    (hs : act.eval s = v) (hx : act.eval x = .slice (some ⟨b, 0, none⟩) m c0) (hcell : ∀ j u, (ns.flatMap R.cells)[j]? = some u → w.cell? ⟨b, j, none⟩ = some u) (hown : ROwn R e B w v xs) (hB : B ≤ w.heap.size) (hl : xs.length + m ≤ 1000000000)
    (h : ∀ a n c w', Hid (n = xs.length + m) → Hid (ROwn R e B w' (.slice a n c) (xs ++ ns)) → Hid (Below B w w') → Hid (PF v w w' (.slice a n c)) → K (act.put o.dst (.slice a n c)) w') :
    if Region.wanted o (yielded ops act.tmps) = true then Oper.wp P o act w K Q else E := by
  rw [if_pos (show Region.wanted o (yielded ops act.tmps) = true by simp [Region.wanted, hgd])]
  exact wp_row1_f s x t ho R e bytes z ht info hzc hby B v xs ns b m c0 hm hs hx hcell hown hB hl h

/-- The cells of a new row of one. -/
theorem one_cells {α : Type} (R : RowOf α) (w : World) (x : α) (cs : Array Value) (T : TypeId) (hcs : cs.toList = R.cells x) : ∀ j u, ([x].flatMap R.cells)[j]? = some u → (w.alloc (.cells cs T)).cell? ⟨w.heap.size, j, none⟩ = some u := fun j u hu => by
  have hM := (BoxL.made w cs T).2 j u (by rw [hcs]; simpa using hu)
  exact hM.1

/-- A part that was made since. -/
theorem turn_part {N : Nat} {W2 wr v9 : World} {va vb vc : Value} {cs : List Int} {vs : List Va} {rs : List Tr} {ps : List Th} {u : Th} {r : Tr} (hO : OB (fun k => False ∨ N ≤ k) N N wr va vb vc cs vs rs ps) (hN : W2.heap.size = N) (h2 : Since W2 wr) (o : Obj)
    (hT : TSr (fun k => (False ∨ wr.heap.size ≤ k) ∧ k < v9.heap.size) v9 u r) : TS (fun k => Free (fun k => False ∨ N ≤ k) N va vb vc k ∧ k < (v9.alloc o).heap.size) (v9.alloc o) u (.slice r.a1 r.n1 r.c1) (.slice r.a2 r.n2 r.c2) (.slice r.a3 r.n3 r.c3) := by
  have hz := since_size h2
  have h1 := hO.part (S0 := fun k => (False ∨ wr.heap.size ≤ k) ∧ k < v9.heap.size) (fun k _ hk => by
    have hk1 := hk.1
    have hk2 : wr.heap.size ≤ k := by rcases hk1 with h | h; exact h.elim; exact h
    exact ⟨.inr (by omega), .inr hk2⟩) hT
  refine TS.keep (S := fun k => Free (fun k => False ∨ N ≤ k) N va vb vc k ∧ k < v9.heap.size) (S' := Free (fun k => False ∨ N ≤ k) N va vb vc) ⟨by simp, fun b _ hl => Below.heap_alloc _ _ _ hl⟩ (fun b _ hb => hb.1) u h1

def TurnK (m : Nat) : Prop := ∀ (t : Th), t.size ≤ m → t.wf → t.wt ≤ 100000 → ∀ (a b c : Value) (W : World), TAt W.heap.size W t a b c →
  Calls Tryz.prog 8 #[.agg #[a, b, c]] W (ThOut (fun _ => False) (fun u => u = t.turn) W)

set_option maxHeartbeats 8000000 in
set_option maxRecDepth 100000 in
theorem turn_step (M : Nat) (K : Hid (TurnK M)) : TurnK (M + 1) := by
  intro t ht hwf hwt a b c W hT
  obtain ⟨a1, c1, a2, c2, a3, c3, rfl, rfl, rfl, hE1, hE2, hP, hL1, hL2⟩ := hT.shape
  have hwp := ((Th.wf_eq t).1 hwf).2
  have htq := t.turn_eq
  have hsz := t.size_eq
  have hwe := t.wt_eq
  have hpl := Th.wts_len t.ps
  have KS := Lib.hid fun (u : Th) (hu : u ∈ t.ps) (a b c : Value) W h => K.out u (by have := Th.sizes_mem hu; omega) (hwp u hu) (by have := Th.wts_mem hu; omega) a b c W h
  generalize t.turn = tt at *
  generalize t.cs = cs at *
  generalize t.vs = vs at *
  generalize t.ps = ps at *
  have hn1 : cs.length ≤ 100000 := by omega
  have hn2 : vs.length ≤ 100000 := by omega
  have hn3 : ps.length ≤ 100000 := by omega
  obtain ⟨W2, hW2⟩ : ∃ W2, W2 = (W.alloc (.cells #[.slice a1 cs.length c1, .slice a2 vs.length c2, .slice a3 ps.length c3] 27)).alloc (.cells #[.slice none 0 0, .slice none 0 0, .slice none 0 0] 27) := ⟨_, rfl⟩
  have hB2 : Below W.heap.size W W2 := by rw [hW2]; exact ((Below.refl _ _).alloc (Nat.le_refl _) _).alloc (by simp) _
  have hX : BoxL W.heap.size [.slice a1 cs.length c1, .slice a2 vs.length c2, .slice a3 ps.length c3] W2 := by rw [hW2]; exact (BoxL.made W _ _).under _
  have hR : BoxL (W.heap.size + 1) [.slice none 0 0, .slice none 0 0, .slice none 0 0] W2 := by
    rw [hW2]
    have := BoxL.made (W.alloc (.cells #[.slice a1 cs.length c1, .slice a2 vs.length c2, .slice a3 ps.length c3] 27)) #[.slice none 0 0, .slice none 0 0, .slice none 0 0] 27
    rwa [World.size_alloc] at this
  have hsz2 : W2.heap.size = W.heap.size + 1 + 1 := by rw [hW2, World.size_alloc, World.size_alloc]
  obtain ⟨W3, hW3⟩ : ∃ W3, W3 = W2.alloc (.cells #[.slice none 0 0, .slice none 0 0, .slice none 0 0] 27) := ⟨_, rfl⟩
  have hS3 : Since W2 W3 := by rw [hW3]; exact (Below.refl _ _).alloc (Nat.le_refl _) _
  have hO3 : OB (fun k => False ∨ W.heap.size + 1 + 1 ≤ k) (W.heap.size + 1 + 1) (W.heap.size + 1 + 1) W3 (.slice none 0 0) (.slice none 0 0) (.slice none 0 0) [] [] [] [] := by rw [hW3, ← hsz2]; exact OB.new _ _ _ (Nat.le_refl _)
  have hBs : ∀ w, Since W2 w → Below W.heap.size W w := fun w h => hB2.trans (Below.mono h hB2.size)
  have HFN := Lib.hid fun (w : World) (P : Th → Prop) (b1 b2 b3 : Option Addr) (l1 d1 l2 d2 l3 d3 : Nat) cs' vs' rs' ps' h hS => spoil_fin (S0 := fun _ => False) (P := P) (W := W) (w := w) (N1 := W.heap.size + 1) (N := W.heap.size + 1 + 1) (a1 := b1) (a2 := b2) (a3 := b3) (n1 := l1) (c1 := d1) (n2 := l2) (c2 := d2) (n3 := l3) (c3 := d3) (cs := cs') (vs := vs') (rs := rs') (ps := ps') rfl rfl (fun k hk => hk.elim) (hBs w hS) h
  have HC1 := Lib.hid fun (w : World) (hS : Since W2 w) => hE1.low hL1 (hBs w hS)
  have HC2 := Lib.hid fun (w : World) (hS : Since W2 w) => hE2.low hL2 (hBs w hS)
  have HC3 := Lib.hid fun (w : World) (hS : Since W2 w) => Ps.below (hBs w hS) hP
  have HX := Lib.hid hX
  have HR := Lib.hid hR
  have HS3 := Lib.hid hS3
  have HO3 := Lib.hid hO3
  have HSZ := Lib.hid hsz2
  have HTQ := Lib.hid htq
  generalize hc1 : cs.length = n1 at *
  generalize hc2 : vs.length = n2 at *
  generalize hc3 : ps.length = n3 at *
  have HN1 := Lib.hid hc1
  have HN2 := Lib.hid hc2
  have HN3 := Lib.hid hc3
  clear hX hR hS3 hO3 hsz2 hP hE1 hE2 hL1 hL2 hT hwf hB2 ht hsz hwe hpl hwp htq hwt K hBs hc1 hc2 hc3
  go_enter Tryz.func8, Tryz.ntmps8
  go_upto_region 2 with (fail)
  rw [← hW2, ← hW3]
  clear hW2 hW3
  generalize hN2 : W.heap.size + 1 + 1 = N at *
  generalize hN1 : W.heap.size + 1 = N1 at *
  clear hN1 hN2
  obtain ⟨p0, p1, p2, -⟩ := (HX.out.keep HS3.out).open3
  have j0 : IntKind.i64.wrap ((n1 : Int) - 1) = (n1 : Int) - 1 := IntWalk.i64_in _ (by omega)
  have HD1 : Hid (cs.drop n1 = []) := Lib.hid (List.drop_of_length_le (by rw [HN1.out]; exact Nat.le_refl _))
  go_wp2
  clear p0 p1 p2
  go_loopw [4] (fun v wr => ∃ (k : Nat) (b1 : Option Addr) (m1 d1 : Nat), k ≤ n1 ∧ v = .int .i64 ((k : Int) - 1) ∧ Hid (OB (fun k => False ∨ N ≤ k) N N wr (.slice b1 m1 d1) (.slice none 0 0) (.slice none 0 0) (cs.drop k).reverse [] [] []) ∧ Hid (Since W2 wr)) (fun v _ => (intOf v + 1).toNat)
  case atStart => exact ⟨n1, none, 0, 0, by omega, rfl, Lib.hid (by rw [HD1.out]; exact HO3.out), HS3⟩
  case round =>
    clear HO3 HS3
    obtain ⟨k, b1, m1, d1, hk, rfl, hO, hS⟩ := hrel
    by_cases hk0 : 0 < k
    · obtain ⟨q, hq⟩ : ∃ q : Nat, (k : Int) - 1 = q := ⟨k - 1, by omega⟩
      have hqk : k = q + 1 := by omega
      rw [hq]
      subst hqk
      clear hq
      have i1 : (q : Int) ≥ 0 := by omega
      have i2 : IntKind.i64.wrap ((q : Int) - 1) = (q : Int) - 1 := IntWalk.i64_in _ (by omega)
      have i3 : (q : Int) < n1 := by omega
      have i4 : ((q : Int)).toNat = q := by omega
      obtain ⟨p0, p1, p2, -⟩ := (HX.out.keep hS.out).open3
      obtain ⟨x0, x1, x2, f0, f1, f2, -⟩ := hO.out.box.open3
      obtain ⟨g, o, rfl, e0⟩ := (HC1.out _ hS.out).at q (by omega)
      have hx : cs[q]? = some (cs[q]?.getD 0) := by rw [List.getElem?_eq_getElem (by have := HN1.out; omega)]; rfl
      generalize cs[q]?.getD 0 = z at *
      have HST := Lib.hid (rev_step hx)
      have hSd : Since wr wr.drew := Below.drew (Below.refl _ _)
      have hSa : Since wr (wr.drew.alloc (.cells #[.int .i64 z] 3)) := Below.alloc hSd hSd.size _
      have HOA := Lib.hid (hO.out.frame hSa)
      have hzB : N ≤ (wr.drew.alloc (.cells #[.int .i64 z] 3)).heap.size := Nat.le_trans (by rw [← HSZ.out]; exact hS.out.size) hSa.size
      have HCL := Lib.hid (one_cells RIn wr.drew z #[.int .i64 z] 3 rfl)
      have hl1 : (cs.drop (q + 1)).reverse.length + 1 ≤ 1000000000 := by rw [List.length_reverse, List.length_drop]; have := HN1.out; omega
      have hxa := Since.cell (Since.alloc (Below.refl _ wr) (.cells #[.int .i64 z] 3)) x0
      clear hx
      go_upto_region 5 with (fail)
      go_region_law ((refine step_row1_f rfl (.tmp 17) (.tmp 23) 22 rfl RIn 3 8 _ Tryz.underlying22 Tryz.infoI64 rfl (by decide) N (.slice b1 m1 d1) (cs.drop (q + 1)).reverse [z] wr.drew.heap.size 1 1 rfl rfl rfl HCL.out HOA.out.oa hzB hl1 ?_; intro ak lk ck wn hnn hOn hBn hPn; obtain ⟨y0, y1, y2, g0, g1, g2, -⟩ := (HOA.out.there1 hPn.out).open3))
      all_goals
        have HO7 : Hid (OB (fun k => False ∨ N ≤ k) N N (wn.setCell ⟨N, 0, none⟩ (.slice ak lk ck)) (.slice ak lk ck) (.slice none 0 0) (.slice none 0 0) (cs.drop q).reverse [] [] []) := Lib.hid (by rw [HST.out]; exact HOA.out.set1 hPn.out hOn.out)
        have HS7 : Hid (Since W2 (wn.setCell ⟨N, 0, none⟩ (.slice ak lk ck))) := Lib.hid (since_put HSZ.out (Since.step hS.out hSa) hBn.out _ _)
        go_wp2
        go_roundw
        case rel => exact ⟨q, ak, lk, ck, by omega, rfl, HO7, HS7⟩
        case measure => simp [intOf] <;> omega
    · have hk00 : k = 0 := by omega
      subst hk00
      have hq : ((0 : Nat) : Int) - 1 = -1 := by decide
      rw [hq]
      have HO1 : Hid (OB (fun k => False ∨ N ≤ k) N N wr (.slice b1 m1 d1) (.slice none 0 0) (.slice none 0 0) cs.reverse [] [] []) := hO
      have HS1 := hS
      obtain ⟨p0, p1, p2, -⟩ := (HX.out.keep hS.out).open3
      have j1 : IntKind.i64.wrap ((n2 : Int) - 1) = (n2 : Int) - 1 := IntWalk.i64_in _ (by omega)
      have HD2 : Hid (vs.drop n2 = []) := Lib.hid (List.drop_of_length_le (by rw [HN2.out]; exact Nat.le_refl _))
      clear hO hS HC1
      go_wp2
      clear p0 p1 p2
      rename World => wo1
      go_loopw [5] (fun v wr => ∃ (k : Nat) (b2 : Option Addr) (m2 d2 : Nat), k ≤ n2 ∧ v = .int .i64 ((k : Int) - 1) ∧ Hid (OB (fun k => False ∨ N ≤ k) N N wr (.slice b1 m1 d1) (.slice b2 m2 d2) (.slice none 0 0) cs.reverse (vs.drop k).reverse [] []) ∧ Hid (Since W2 wr)) (fun v _ => (intOf v + 1).toNat)
      case atStart => exact ⟨n2, none, 0, 0, by omega, rfl, Lib.hid (by rw [HD2.out]; exact HO1.out), HS1⟩
      case round =>
        clear HO1 HS1
        obtain ⟨k, b2, m2, d2, hk, rfl, hO, hS⟩ := hrel
        by_cases hk0 : 0 < k
        · obtain ⟨q, hq⟩ : ∃ q : Nat, (k : Int) - 1 = q := ⟨k - 1, by omega⟩
          have hqk : k = q + 1 := by omega
          rw [hq]
          subst hqk
          clear hq
          have i1 : (q : Int) ≥ 0 := by omega
          have i2 : IntKind.i64.wrap ((q : Int) - 1) = (q : Int) - 1 := IntWalk.i64_in _ (by omega)
          have i3 : (q : Int) < n2 := by omega
          have i4 : ((q : Int)).toNat = q := by omega
          obtain ⟨p0, p1, p2, -⟩ := (HX.out.keep hS.out).open3
          obtain ⟨x0, x1, x2, f0, f1, f2, -⟩ := hO.out.box.open3
          obtain ⟨v, hv⟩ : ∃ v, vs[q]? = some v := ⟨vs[q]'(by rw [HN2.out]; omega), List.getElem?_eq_getElem _⟩
          have hEw := HC2.out _ hS.out
          obtain ⟨g, rfl, -⟩ := hEw.get (j := q) (by omega)
          obtain ⟨e0, e1, e2, -⟩ := va_at hEw hv
          have HST := Lib.hid (rev_step hv)
          obtain ⟨vt, vn, vd⟩ := v
          simp only at e0 e1 e2
          have hSd : Since wr wr.drew := Below.drew (Below.refl _ _)
          have hSa : Since wr (wr.drew.alloc (.cells #[.int .i64 vt, .int .i64 vn, .int .i64 vd] 46)) := Below.alloc hSd hSd.size _
          have HOA := Lib.hid (hO.out.frame hSa)
          have hzB : N ≤ (wr.drew.alloc (.cells #[.int .i64 vt, .int .i64 vn, .int .i64 vd] 46)).heap.size := Nat.le_trans (by rw [← HSZ.out]; exact hS.out.size) hSa.size
          have HCL := Lib.hid (one_cells RVa wr.drew ⟨vt, vn, vd⟩ #[.int .i64 vt, .int .i64 vn, .int .i64 vd] 46 rfl)
          have hl1 : (vs.drop (q + 1)).reverse.length + 1 ≤ 1000000000 := by rw [List.length_reverse, List.length_drop]; have := HN2.out; omega
          have hxa := Since.cell (Since.alloc (Below.refl _ wr) (.cells #[.int .i64 vt, .int .i64 vn, .int .i64 vd] 46)) x1
          clear hv hEw
          go_upto_region 9 with (fail)
          go_region_law ((refine step_row1_f rfl (.tmp 35) (.tmp 41) 25 rfl RVa 46 24 _ Tryz.underlying25 Tryz.infoVal rfl (by decide) N (.slice b2 m2 d2) (vs.drop (q + 1)).reverse [⟨vt, vn, vd⟩] wr.drew.heap.size 1 1 rfl rfl rfl HCL.out HOA.out.ob hzB hl1 ?_; intro ak lk ck wn hnn hOn hBn hPn; obtain ⟨y0, y1, y2, g0, g1, g2, -⟩ := (HOA.out.there2 hPn.out).open3))
          all_goals
            have HO7 : Hid (OB (fun k => False ∨ N ≤ k) N N (wn.setCell ⟨N, 1, none⟩ (.slice ak lk ck)) (.slice b1 m1 d1) (.slice ak lk ck) (.slice none 0 0) cs.reverse (vs.drop q).reverse [] []) := Lib.hid (by rw [HST.out]; exact HOA.out.set2 hPn.out hOn.out)
            have HS7 : Hid (Since W2 (wn.setCell ⟨N, 1, none⟩ (.slice ak lk ck))) := Lib.hid (since_put HSZ.out (Since.step hS.out hSa) hBn.out _ _)
            go_wp2
            go_roundw
            case rel => exact ⟨q, ak, lk, ck, by omega, rfl, HO7, HS7⟩
            case measure => simp [intOf] <;> omega
        · have hk00 : k = 0 := by omega
          subst hk00
          have hq : ((0 : Nat) : Int) - 1 = -1 := by decide
          rw [hq]
          have HO1 : Hid (OB (fun k => False ∨ N ≤ k) N N wr (.slice b1 m1 d1) (.slice b2 m2 d2) (.slice none 0 0) cs.reverse vs.reverse [] []) := hO
          have HS1 := hS
          obtain ⟨p0, p1, p2, -⟩ := (HX.out.keep hS.out).open3
          have j1 : IntKind.i64.wrap ((n3 : Int) - 1) = (n3 : Int) - 1 := IntWalk.i64_in _ (by omega)
          have HD3 : Hid (ps.drop n3 = []) := Lib.hid (List.drop_of_length_le (by rw [HN3.out]; exact Nat.le_refl _))
          clear hO hS HC2
          go_wp2
          clear p0 p1 p2
          rename World => wo2
          go_loopw [6] (fun v wr => ∃ (k : Nat) (b3 : Option Addr) (m3 d3 : Nat) (rs : List Tr), k ≤ n3 ∧ v = .int .i64 ((k : Int) - 1) ∧ Hid (OB (fun k => False ∨ N ≤ k) N N wr (.slice b1 m1 d1) (.slice b2 m2 d2) (.slice b3 m3 d3) cs.reverse vs.reverse rs ((ps.drop k).map Th.turn).reverse) ∧ Hid (Since W2 wr)) (fun v _ => (intOf v + 1).toNat)
          case atStart => exact ⟨n3, none, 0, 0, [], by omega, rfl, Lib.hid (by rw [HD3.out]; exact HO1.out), HS1⟩
          case round =>
            clear HO1 HS1
            obtain ⟨k, b3, m3, d3, rs, hk, rfl, hO, hS⟩ := hrel
            by_cases hk0 : 0 < k
            · obtain ⟨q, hq⟩ : ∃ q : Nat, (k : Int) - 1 = q := ⟨k - 1, by omega⟩
              have hqk : k = q + 1 := by omega
              rw [hq]
              subst hqk
              clear hq
              have i1 : (q : Int) ≥ 0 := by omega
              have i2 : IntKind.i64.wrap ((q : Int) - 1) = (q : Int) - 1 := IntWalk.i64_in _ (by omega)
              have i3 : (q : Int) < n3 := by omega
              have i4 : ((q : Int)).toNat = q := by omega
              obtain ⟨p0, p1, p2, -⟩ := (HX.out.keep hS.out).open3
              obtain ⟨x0, x1, x2, f0, f1, f2, -⟩ := hO.out.box.open3
              have hS2 := hS.out
              obtain ⟨c0, c1', c2, -⟩ := HX.out.open3
              obtain ⟨g, u, rfl, -, -, -, hu, v1, v2, v3, e0, e1, e2, hTu⟩ := (HC3.out W2 (Since.refl _)).get (j := q) (by omega)
              have hum := List.mem_of_getElem? hu
              have hst : ((ps.drop q).map Th.turn).reverse = ((ps.drop (q + 1)).map Th.turn).reverse ++ [u.turn] := by
                rw [← List.map_reverse, rev_step hu, List.map_append, List.map_reverse]
                rfl
              have HST := Lib.hid hst
              have KQ := Lib.hid fun W (h : Since wr W) => KS.out u hum _ _ _ W (TAt.below (Since.step hS2 h) hTu)
              obtain ⟨⟨q1, r1, y1, q2, r2, y2, q3, r3, y3⟩, rfl, rfl, rfl, -⟩ := (TAt.ts u hTu).shape
              simp only at e0 e1 e2 KQ
              have hln : rs.length ≤ 100000 := by
                have h1 := hO.out.lie.1
                rw [h1, List.length_reverse, List.length_map, List.length_drop]
                have := HN3.out
                omega
              have hl1 : rs.length + 1 ≤ 1000000000 := by omega
              clear hst hTu hum hu hln
              go_upto_region 13 with (fail)
              refine wp_region_noPanic ?_
              refine wp_region_held_drew (S := fun w' => w'.cell? ⟨W.heap.size, 2, none⟩ = some (.slice (some ⟨g, 0, none⟩) n3 c3) ∧ w'.cell? ⟨g, q * 3, none⟩ = some (.slice q1 r1 y1) ∧ w'.cell? ⟨g, q * 3 + 1, none⟩ = some (.slice q2 r2 y2) ∧ w'.cell? ⟨g, q * 3 + 2, none⟩ = some (.slice q3 r3 y3) ∧ Since W2 w') (by kernel_rfl) (by (with_reducible refine ⟨Since.cell ?_ c2, Since.cell ?_ e0, Since.cell ?_ e1, Since.cell ?_ e2, ?_⟩) <;> (repeat (first | with_reducible assumption | with_reducible exact Since.refl _ | with_reducible refine Since.alloc ?_ _ | with_reducible refine Since.drew ?_))) (fun hHeld => ?_)
              refine wpAnyH_take (i := 0) (oi := ⟨some 52, Op.fieldAddr 27 (Operand.tmp 3) 2, 0, _, _, none⟩) (v := ?_) rfl (by kernel_rfl) (by kernel_rfl) (by kernel_rfl) (fun _ _ _ h => h) (Or.inl ⟨by rfl, ?_⟩) (by assumption) ?_
              rotate_left 1
              · (intro w hSw; (try dsimp only at hSw); go_simp; first | done | with_reducible rfl)
              try simp only [Act.put, List.setIfInBounds_toArray, List.set_cons_zero, List.set_cons_succ]
              refine wpAnyH_take (i := 2) (oi := ⟨some 54, Op.fieldAddr 27 (Operand.tmp 1) 2, 0, _, _, none⟩) (v := ?_) rfl (by kernel_rfl) (by kernel_rfl) (by kernel_rfl) (fun _ _ _ h => h) (Or.inl ⟨by rfl, ?_⟩) (by assumption) ?_
              rotate_left 1
              · (intro w hSw; (try dsimp only at hSw); go_simp; first | done | with_reducible rfl)
              try simp only [Act.put, List.setIfInBounds_toArray, List.set_cons_zero, List.set_cons_succ]
              refine wpAnyH_take (i := 3) (oi := ⟨some 55, Op.load 23 (Operand.tmp 54), 23, _, _, none⟩) (v := ?_) rfl (by kernel_rfl) (by kernel_rfl) (by kernel_rfl) (fun _ _ _ h => h) (Or.inl ⟨by rfl, ?_⟩) (by assumption) ?_
              rotate_left 1
              · (intro w hSw; (try dsimp only at hSw); go_simp; first | done | with_reducible rfl)
              try simp only [Act.put, List.setIfInBounds_toArray, List.set_cons_zero, List.set_cons_succ]
              refine wpAnyH_take (i := 4) (oi := ⟨some 56, Op.move (Operand.tmp 6), 3, _, _, none⟩) (v := ?_) rfl (by kernel_rfl) (by kernel_rfl) (by kernel_rfl) (fun _ _ _ h => h) (Or.inl ⟨by rfl, ?_⟩) (by assumption) ?_
              rotate_left 1
              · (intro w hSw; (try dsimp only at hSw); go_simp; first | done | with_reducible rfl)
              try simp only [Act.put, List.setIfInBounds_toArray, List.set_cons_zero, List.set_cons_succ]
              refine wpAnyH_take (i := 5) (oi := ⟨some 57, Op.indexAddr 23 (Operand.tmp 55) (Operand.tmp 56), 0, _, _, none⟩) (v := ?_) rfl (by kernel_rfl) (by kernel_rfl) (by kernel_rfl) (fun _ _ _ h => h) (Or.inl ⟨by rfl, ?_⟩) (by assumption) ?_
              rotate_left 1
              · (intro w hSw; (try dsimp only at hSw); go_simp; first | done | with_reducible rfl)
              try simp only [Act.put, List.setIfInBounds_toArray, List.set_cons_zero, List.set_cons_succ]
              refine wpAnyH_take (i := 6) (oi := ⟨some 58, Op.load 27 (Operand.tmp 57), 27, _, _, none⟩) (v := ?_) rfl (by kernel_rfl) (by kernel_rfl) (by kernel_rfl) (fun _ _ _ h => h) (Or.inl ⟨by rfl, ?_⟩) (by assumption) ?_
              rotate_left 1
              · (intro w hSw; (try dsimp only at hSw); go_simp; first | done | with_reducible rfl)
              try simp only [Act.put, List.setIfInBounds_toArray, List.set_cons_zero, List.set_cons_succ]
              refine wpAnyH_ready (rs := [1, 7]) (by kernel_rfl) (by simp) ?_
              refine AllReadyH.cons (o := ⟨some 53, Op.load 23 (Operand.tmp 52), 23, _, _, none⟩) rfl (fun K hK => ?_) (AllReadyH.cons (o := ⟨some 59, Op.call { callee := Callee.value (Operand.func 8), args := #[Operand.tmp 58], argTypes := #[27] }, 27, _, _, none⟩) rfl (fun K hK => ?_) AllReadyH.nil)
              · go_simp
                try go_wp2_with fail
                refine hK.out _ _ ?_ (fun hHeld => ?_)
                · (with_reducible refine ⟨Since.cell ?_ c2, Since.cell ?_ e0, Since.cell ?_ e1, Since.cell ?_ e2, ?_⟩) <;> (repeat (first | with_reducible assumption | with_reducible exact Since.refl _ | with_reducible refine Since.alloc ?_ _ | with_reducible refine Since.drew ?_))
                clear hK K
                try simp only [Act.put, List.setIfInBounds_toArray, List.set_cons_zero, List.set_cons_succ]
                refine wpAnyH_ready (rs := [7]) (by kernel_rfl) (by simp) ?_
                refine AllReadyH.cons (o := ⟨some 59, Op.call { callee := Callee.value (Operand.func 8), args := #[Operand.tmp 58], argTypes := #[27] }, 27, _, _, none⟩) rfl (fun K hK => ?_) AllReadyH.nil
                go_simp
                refine (KQ.out _ (by (repeat (first | with_reducible assumption | with_reducible exact Since.refl _ | with_reducible refine Since.alloc ?_ _ | with_reducible refine Since.drew ?_)))).mono ?_
                rintro e v9 ⟨u9, ⟨s1, t1, u1, s2, t2, u2, s3, t3, u3⟩, rfl, hT9, HP9, hB9⟩
                try simp only
                have hSv : Since wr v9 := by (with_reducible refine Since.step ?_ hB9.out); (repeat (first | with_reducible assumption | with_reducible exact Since.refl _ | with_reducible refine Since.alloc ?_ _ | with_reducible refine Since.drew ?_))
                have hsv : Since W2 v9 := Since.step hS2 hSv
                have hSa : Since wr (v9.alloc (.cells #[.slice s1 t1 u1, .slice s2 t2 u2, .slice s3 t3 u3] 27)) := Since.alloc hSv _
                have hsa : Since W2 (v9.alloc (.cells #[.slice s1 t1 u1, .slice s2 t2 u2, .slice s3 t3 u3] 27)) := Since.step hS2 hSa
                have HOA := Lib.hid (hO.out.frame hSa)
                have HPT := Lib.hid (turn_part hO.out HSZ.out hS2 (.cells #[.slice s1 t1 u1, .slice s2 t2 u2, .slice s3 t3 u3] 27) hT9.out)
                have hw2 := Since.cell hSv x2
                have hxa := Since.cell hSa x2
                have hxad := Since.cell (Since.drew hSa) x2
                have HCL := Lib.hid (one_cells RTh v9 ⟨s1, t1, u1, s2, t2, u2, s3, t3, u3⟩ #[.slice s1 t1 u1, .slice s2 t2 u2, .slice s3 t3 u3] 27 rfl)
                have hzB : N ≤ (v9.alloc (.cells #[.slice s1 t1 u1, .slice s2 t2 u2, .slice s3 t3 u3] 27)).heap.size := by rw [← HSZ.out]; exact since_size hsa
                have hsad := Since.drew hsa
                try go_wp2_with fail
                refine hK.out _ _ ?_ (fun hHeld => ?_)
                · (with_reducible refine ⟨Since.cell ?_ c2, Since.cell ?_ e0, Since.cell ?_ e1, Since.cell ?_ e2, ?_⟩) <;> (repeat (first | with_reducible assumption | with_reducible exact Since.refl _ | with_reducible refine Since.alloc ?_ _ | with_reducible refine Since.drew ?_))
                clear hK K
                try simp only [Act.put, List.setIfInBounds_toArray, List.set_cons_zero, List.set_cons_succ]
                refine wpAnyH_ready (rs := [8]) (by kernel_rfl) (by simp) ?_
                refine AllReadyH.cons (o := ⟨some 60, Op.buildSlice 23 1 #[(0, Operand.tmp 59)], 23, _, _, none⟩) rfl (fun K hK => ?_) AllReadyH.nil
                go_simp
                try go_wp2_with fail
                refine hK.out _ _ ?_ (fun hHeld => ?_)
                · (with_reducible refine ⟨Since.cell ?_ c2, Since.cell ?_ e0, Since.cell ?_ e1, Since.cell ?_ e2, ?_⟩) <;> (repeat (first | with_reducible assumption | with_reducible exact Since.refl _ | with_reducible refine Since.alloc ?_ _ | with_reducible refine Since.drew ?_))
                clear hK K
                try simp only [Act.put, List.setIfInBounds_toArray, List.set_cons_zero, List.set_cons_succ]
                refine wpAnyH_ready (rs := [9]) (by kernel_rfl) (by simp) ?_
                refine AllReadyH.cons (o := ⟨some 61, Op.call { callee := Callee.builtin Builtin.append, args := #[Operand.tmp 53, Operand.tmp 60], argTypes := #[23, 23] }, 23, _, _, none⟩) rfl (fun K hK => ?_) AllReadyH.nil
                refine wp_row1_f (.tmp 53) (.tmp 60) 23 rfl RTh 27 72 _ Tryz.underlying23 Tryz.infoTh rfl (by decide) N (.slice b3 m3 d3) rs [⟨s1, t1, u1, s2, t2, u2, s3, t3, u3⟩] v9.heap.size 1 1 rfl rfl rfl HCL.out HOA.out.oc hzB hl1 ?_
                intro ak lk ck wn hnn hOn hBn hPn
                obtain ⟨y0, y1, y2, g0, g1, g2, -⟩ := (HOA.out.there3 hPn.out).open3
                have hsn : Since W2 wn := Below.trans hsa (by rw [HSZ.out]; exact hBn.out)
                refine hK.out _ _ ?_ (fun hHeld => ?_)
                · (with_reducible refine ⟨Since.cell ?_ c2, Since.cell ?_ e0, Since.cell ?_ e1, Since.cell ?_ e2, ?_⟩) <;> (repeat (first | with_reducible assumption | with_reducible exact Since.refl _ | with_reducible refine Since.alloc ?_ _ | with_reducible refine Since.drew ?_))
                clear hK K
                try simp only [Act.put, List.setIfInBounds_toArray, List.set_cons_zero, List.set_cons_succ]
                refine wpAnyH_take (i := 10) (oi := ⟨some 62, Op.fieldAddr 27 (Operand.tmp 3) 2, 0, _, _, none⟩) (v := ?_) rfl (by kernel_rfl) (by kernel_rfl) (by kernel_rfl) (fun _ _ _ h => h) (Or.inl ⟨by rfl, ?_⟩) (by assumption) ?_
                rotate_left 1
                · (intro w hSw; (try dsimp only at hSw); go_simp; first | done | with_reducible rfl)
                try simp only [Act.put, List.setIfInBounds_toArray, List.set_cons_zero, List.set_cons_succ]
                refine wpAnyH_ready (rs := [11]) (by kernel_rfl) (by simp) ?_
                refine AllReadyH.cons (o := ⟨none, Op.store 23 (Operand.tmp 62) (Operand.tmp 61), 0, _, _, none⟩) rfl (fun K hK => ?_) AllReadyH.nil
                go_simp
                go_wp2_with fail
                have hsp : Since W2 (wn.setCell ⟨N, 2, none⟩ (.slice ak lk ck)) := since_put HSZ.out hsa hBn.out _ _
                refine hK.out _ _ ?_ (fun hHeld => ?_)
                · (with_reducible refine ⟨Since.cell ?_ c2, Since.cell ?_ e0, Since.cell ?_ e1, Since.cell ?_ e2, ?_⟩) <;> (repeat (first | with_reducible assumption | with_reducible exact Since.refl _ | with_reducible refine Since.alloc ?_ _ | with_reducible refine Since.drew ?_))
                clear hK K
                try simp only [Act.put, List.setIfInBounds_toArray, List.set_cons_zero, List.set_cons_succ]
                refine wpAnyH_done (by kernel_rfl) ?_ _
                refine NoPanic.normal ?_
                have HL9 := Lib.hid (HOA.out.lie.snoc (r := ⟨s1, t1, u1, s2, t2, u2, s3, t3, u3⟩) (HPT.out))
                have HO7 : Hid (OB (fun k => False ∨ N ≤ k) N N (wn.setCell ⟨N, 2, none⟩ (.slice ak lk ck)) (.slice b1 m1 d1) (.slice b2 m2 d2) (.slice ak lk ck) cs.reverse vs.reverse (rs ++ [⟨s1, t1, u1, s2, t2, u2, s3, t3, u3⟩]) ((ps.drop q).map Th.turn).reverse) := Lib.hid (by rw [HST.out, ← HP9.out]; exact HOA.out.set3 hPn.out hOn.out HL9.out)
                have HS7 : Hid (Since W2 (wn.setCell ⟨N, 2, none⟩ (.slice ak lk ck))) := Lib.hid hsp
                go_wp2
                go_roundw
                case rel => exact ⟨q, ak, lk, ck, _, by omega, rfl, HO7, HS7⟩
                case measure => simp [intOf] <;> omega
              · go_simp
                refine (KQ.out _ (by (repeat (first | with_reducible assumption | with_reducible exact Since.refl _ | with_reducible refine Since.alloc ?_ _ | with_reducible refine Since.drew ?_)))).mono ?_
                rintro e v9 ⟨u9, ⟨s1, t1, u1, s2, t2, u2, s3, t3, u3⟩, rfl, hT9, HP9, hB9⟩
                try simp only
                have hSv : Since wr v9 := by (with_reducible refine Since.step ?_ hB9.out); (repeat (first | with_reducible assumption | with_reducible exact Since.refl _ | with_reducible refine Since.alloc ?_ _ | with_reducible refine Since.drew ?_))
                have hsv : Since W2 v9 := Since.step hS2 hSv
                have hSa : Since wr (v9.alloc (.cells #[.slice s1 t1 u1, .slice s2 t2 u2, .slice s3 t3 u3] 27)) := Since.alloc hSv _
                have hsa : Since W2 (v9.alloc (.cells #[.slice s1 t1 u1, .slice s2 t2 u2, .slice s3 t3 u3] 27)) := Since.step hS2 hSa
                have HOA := Lib.hid (hO.out.frame hSa)
                have HPT := Lib.hid (turn_part hO.out HSZ.out hS2 (.cells #[.slice s1 t1 u1, .slice s2 t2 u2, .slice s3 t3 u3] 27) hT9.out)
                have hw2 := Since.cell hSv x2
                have hxa := Since.cell hSa x2
                have hxad := Since.cell (Since.drew hSa) x2
                have HCL := Lib.hid (one_cells RTh v9 ⟨s1, t1, u1, s2, t2, u2, s3, t3, u3⟩ #[.slice s1 t1 u1, .slice s2 t2 u2, .slice s3 t3 u3] 27 rfl)
                have hzB : N ≤ (v9.alloc (.cells #[.slice s1 t1 u1, .slice s2 t2 u2, .slice s3 t3 u3] 27)).heap.size := by rw [← HSZ.out]; exact since_size hsa
                have hsad := Since.drew hsa
                try go_wp2_with fail
                refine hK.out _ _ ?_ (fun hHeld => ?_)
                · (with_reducible refine ⟨Since.cell ?_ c2, Since.cell ?_ e0, Since.cell ?_ e1, Since.cell ?_ e2, ?_⟩) <;> (repeat (first | with_reducible assumption | with_reducible exact Since.refl _ | with_reducible refine Since.alloc ?_ _ | with_reducible refine Since.drew ?_))
                clear hK K
                try simp only [Act.put, List.setIfInBounds_toArray, List.set_cons_zero, List.set_cons_succ]
                refine wpAnyH_ready (rs := [1, 8]) (by kernel_rfl) (by simp) ?_
                refine AllReadyH.cons (o := ⟨some 53, Op.load 23 (Operand.tmp 52), 23, _, _, none⟩) rfl (fun K hK => ?_) (AllReadyH.cons (o := ⟨some 60, Op.buildSlice 23 1 #[(0, Operand.tmp 59)], 23, _, _, none⟩) rfl (fun K hK => ?_) AllReadyH.nil)
                · go_simp
                  try go_wp2_with fail
                  refine hK.out _ _ ?_ (fun hHeld => ?_)
                  · (with_reducible refine ⟨Since.cell ?_ c2, Since.cell ?_ e0, Since.cell ?_ e1, Since.cell ?_ e2, ?_⟩) <;> (repeat (first | with_reducible assumption | with_reducible exact Since.refl _ | with_reducible refine Since.alloc ?_ _ | with_reducible refine Since.drew ?_))
                  clear hK K
                  try simp only [Act.put, List.setIfInBounds_toArray, List.set_cons_zero, List.set_cons_succ]
                  refine wpAnyH_ready (rs := [8]) (by kernel_rfl) (by simp) ?_
                  refine AllReadyH.cons (o := ⟨some 60, Op.buildSlice 23 1 #[(0, Operand.tmp 59)], 23, _, _, none⟩) rfl (fun K hK => ?_) AllReadyH.nil
                  go_simp
                  try go_wp2_with fail
                  refine hK.out _ _ ?_ (fun hHeld => ?_)
                  · (with_reducible refine ⟨Since.cell ?_ c2, Since.cell ?_ e0, Since.cell ?_ e1, Since.cell ?_ e2, ?_⟩) <;> (repeat (first | with_reducible assumption | with_reducible exact Since.refl _ | with_reducible refine Since.alloc ?_ _ | with_reducible refine Since.drew ?_))
                  clear hK K
                  try simp only [Act.put, List.setIfInBounds_toArray, List.set_cons_zero, List.set_cons_succ]
                  refine wpAnyH_ready (rs := [9]) (by kernel_rfl) (by simp) ?_
                  refine AllReadyH.cons (o := ⟨some 61, Op.call { callee := Callee.builtin Builtin.append, args := #[Operand.tmp 53, Operand.tmp 60], argTypes := #[23, 23] }, 23, _, _, none⟩) rfl (fun K hK => ?_) AllReadyH.nil
                  refine wp_row1_f (.tmp 53) (.tmp 60) 23 rfl RTh 27 72 _ Tryz.underlying23 Tryz.infoTh rfl (by decide) N (.slice b3 m3 d3) rs [⟨s1, t1, u1, s2, t2, u2, s3, t3, u3⟩] v9.heap.size 1 1 rfl rfl rfl HCL.out HOA.out.oc hzB hl1 ?_
                  intro ak lk ck wn hnn hOn hBn hPn
                  obtain ⟨y0, y1, y2, g0, g1, g2, -⟩ := (HOA.out.there3 hPn.out).open3
                  have hsn : Since W2 wn := Below.trans hsa (by rw [HSZ.out]; exact hBn.out)
                  refine hK.out _ _ ?_ (fun hHeld => ?_)
                  · (with_reducible refine ⟨Since.cell ?_ c2, Since.cell ?_ e0, Since.cell ?_ e1, Since.cell ?_ e2, ?_⟩) <;> (repeat (first | with_reducible assumption | with_reducible exact Since.refl _ | with_reducible refine Since.alloc ?_ _ | with_reducible refine Since.drew ?_))
                  clear hK K
                  try simp only [Act.put, List.setIfInBounds_toArray, List.set_cons_zero, List.set_cons_succ]
                  refine wpAnyH_take (i := 10) (oi := ⟨some 62, Op.fieldAddr 27 (Operand.tmp 3) 2, 0, _, _, none⟩) (v := ?_) rfl (by kernel_rfl) (by kernel_rfl) (by kernel_rfl) (fun _ _ _ h => h) (Or.inl ⟨by rfl, ?_⟩) (by assumption) ?_
                  rotate_left 1
                  · (intro w hSw; (try dsimp only at hSw); go_simp; first | done | with_reducible rfl)
                  try simp only [Act.put, List.setIfInBounds_toArray, List.set_cons_zero, List.set_cons_succ]
                  refine wpAnyH_ready (rs := [11]) (by kernel_rfl) (by simp) ?_
                  refine AllReadyH.cons (o := ⟨none, Op.store 23 (Operand.tmp 62) (Operand.tmp 61), 0, _, _, none⟩) rfl (fun K hK => ?_) AllReadyH.nil
                  go_simp
                  go_wp2_with fail
                  have hsp : Since W2 (wn.setCell ⟨N, 2, none⟩ (.slice ak lk ck)) := since_put HSZ.out hsa hBn.out _ _
                  refine hK.out _ _ ?_ (fun hHeld => ?_)
                  · (with_reducible refine ⟨Since.cell ?_ c2, Since.cell ?_ e0, Since.cell ?_ e1, Since.cell ?_ e2, ?_⟩) <;> (repeat (first | with_reducible assumption | with_reducible exact Since.refl _ | with_reducible refine Since.alloc ?_ _ | with_reducible refine Since.drew ?_))
                  clear hK K
                  try simp only [Act.put, List.setIfInBounds_toArray, List.set_cons_zero, List.set_cons_succ]
                  refine wpAnyH_done (by kernel_rfl) ?_ _
                  refine NoPanic.normal ?_
                  have HL9 := Lib.hid (HOA.out.lie.snoc (r := ⟨s1, t1, u1, s2, t2, u2, s3, t3, u3⟩) (HPT.out))
                  have HO7 : Hid (OB (fun k => False ∨ N ≤ k) N N (wn.setCell ⟨N, 2, none⟩ (.slice ak lk ck)) (.slice b1 m1 d1) (.slice b2 m2 d2) (.slice ak lk ck) cs.reverse vs.reverse (rs ++ [⟨s1, t1, u1, s2, t2, u2, s3, t3, u3⟩]) ((ps.drop q).map Th.turn).reverse) := Lib.hid (by rw [HST.out, ← HP9.out]; exact HOA.out.set3 hPn.out hOn.out HL9.out)
                  have HS7 : Hid (Since W2 (wn.setCell ⟨N, 2, none⟩ (.slice ak lk ck))) := Lib.hid hsp
                  go_wp2
                  go_roundw
                  case rel => exact ⟨q, ak, lk, ck, _, by omega, rfl, HO7, HS7⟩
                  case measure => simp [intOf] <;> omega
                · go_simp
                  try go_wp2_with fail
                  refine hK.out _ _ ?_ (fun hHeld => ?_)
                  · (with_reducible refine ⟨Since.cell ?_ c2, Since.cell ?_ e0, Since.cell ?_ e1, Since.cell ?_ e2, ?_⟩) <;> (repeat (first | with_reducible assumption | with_reducible exact Since.refl _ | with_reducible refine Since.alloc ?_ _ | with_reducible refine Since.drew ?_))
                  clear hK K
                  try simp only [Act.put, List.setIfInBounds_toArray, List.set_cons_zero, List.set_cons_succ]
                  refine wpAnyH_ready (rs := [1]) (by kernel_rfl) (by simp) ?_
                  refine AllReadyH.cons (o := ⟨some 53, Op.load 23 (Operand.tmp 52), 23, _, _, none⟩) rfl (fun K hK => ?_) AllReadyH.nil
                  go_simp
                  try go_wp2_with fail
                  refine hK.out _ _ ?_ (fun hHeld => ?_)
                  · (with_reducible refine ⟨Since.cell ?_ c2, Since.cell ?_ e0, Since.cell ?_ e1, Since.cell ?_ e2, ?_⟩) <;> (repeat (first | with_reducible assumption | with_reducible exact Since.refl _ | with_reducible refine Since.alloc ?_ _ | with_reducible refine Since.drew ?_))
                  clear hK K
                  try simp only [Act.put, List.setIfInBounds_toArray, List.set_cons_zero, List.set_cons_succ]
                  refine wpAnyH_ready (rs := [9]) (by kernel_rfl) (by simp) ?_
                  refine AllReadyH.cons (o := ⟨some 61, Op.call { callee := Callee.builtin Builtin.append, args := #[Operand.tmp 53, Operand.tmp 60], argTypes := #[23, 23] }, 23, _, _, none⟩) rfl (fun K hK => ?_) AllReadyH.nil
                  refine wp_row1_f (.tmp 53) (.tmp 60) 23 rfl RTh 27 72 _ Tryz.underlying23 Tryz.infoTh rfl (by decide) N (.slice b3 m3 d3) rs [⟨s1, t1, u1, s2, t2, u2, s3, t3, u3⟩] v9.heap.size 1 1 rfl rfl rfl HCL.out HOA.out.oc hzB hl1 ?_
                  intro ak lk ck wn hnn hOn hBn hPn
                  obtain ⟨y0, y1, y2, g0, g1, g2, -⟩ := (HOA.out.there3 hPn.out).open3
                  have hsn : Since W2 wn := Below.trans hsa (by rw [HSZ.out]; exact hBn.out)
                  refine hK.out _ _ ?_ (fun hHeld => ?_)
                  · (with_reducible refine ⟨Since.cell ?_ c2, Since.cell ?_ e0, Since.cell ?_ e1, Since.cell ?_ e2, ?_⟩) <;> (repeat (first | with_reducible assumption | with_reducible exact Since.refl _ | with_reducible refine Since.alloc ?_ _ | with_reducible refine Since.drew ?_))
                  clear hK K
                  try simp only [Act.put, List.setIfInBounds_toArray, List.set_cons_zero, List.set_cons_succ]
                  refine wpAnyH_take (i := 10) (oi := ⟨some 62, Op.fieldAddr 27 (Operand.tmp 3) 2, 0, _, _, none⟩) (v := ?_) rfl (by kernel_rfl) (by kernel_rfl) (by kernel_rfl) (fun _ _ _ h => h) (Or.inl ⟨by rfl, ?_⟩) (by assumption) ?_
                  rotate_left 1
                  · (intro w hSw; (try dsimp only at hSw); go_simp; first | done | with_reducible rfl)
                  try simp only [Act.put, List.setIfInBounds_toArray, List.set_cons_zero, List.set_cons_succ]
                  refine wpAnyH_ready (rs := [11]) (by kernel_rfl) (by simp) ?_
                  refine AllReadyH.cons (o := ⟨none, Op.store 23 (Operand.tmp 62) (Operand.tmp 61), 0, _, _, none⟩) rfl (fun K hK => ?_) AllReadyH.nil
                  go_simp
                  go_wp2_with fail
                  have hsp : Since W2 (wn.setCell ⟨N, 2, none⟩ (.slice ak lk ck)) := since_put HSZ.out hsa hBn.out _ _
                  refine hK.out _ _ ?_ (fun hHeld => ?_)
                  · (with_reducible refine ⟨Since.cell ?_ c2, Since.cell ?_ e0, Since.cell ?_ e1, Since.cell ?_ e2, ?_⟩) <;> (repeat (first | with_reducible assumption | with_reducible exact Since.refl _ | with_reducible refine Since.alloc ?_ _ | with_reducible refine Since.drew ?_))
                  clear hK K
                  try simp only [Act.put, List.setIfInBounds_toArray, List.set_cons_zero, List.set_cons_succ]
                  refine wpAnyH_done (by kernel_rfl) ?_ _
                  refine NoPanic.normal ?_
                  have HL9 := Lib.hid (HOA.out.lie.snoc (r := ⟨s1, t1, u1, s2, t2, u2, s3, t3, u3⟩) (HPT.out))
                  have HO7 : Hid (OB (fun k => False ∨ N ≤ k) N N (wn.setCell ⟨N, 2, none⟩ (.slice ak lk ck)) (.slice b1 m1 d1) (.slice b2 m2 d2) (.slice ak lk ck) cs.reverse vs.reverse (rs ++ [⟨s1, t1, u1, s2, t2, u2, s3, t3, u3⟩]) ((ps.drop q).map Th.turn).reverse) := Lib.hid (by rw [HST.out, ← HP9.out]; exact HOA.out.set3 hPn.out hOn.out HL9.out)
                  have HS7 : Hid (Since W2 (wn.setCell ⟨N, 2, none⟩ (.slice ak lk ck))) := Lib.hid hsp
                  go_wp2
                  go_roundw
                  case rel => exact ⟨q, ak, lk, ck, _, by omega, rfl, HO7, HS7⟩
                  case measure => simp [intOf] <;> omega
            · have hk00 : k = 0 := by omega
              subst hk00
              have hq : ((0 : Nat) : Int) - 1 = -1 := by decide
              rw [hq]
              have hO7 : OB (fun k => False ∨ N ≤ k) N N wr (.slice b1 m1 d1) (.slice b2 m2 d2) (.slice b3 m3 d3) cs.reverse vs.reverse rs (ps.map Th.turn).reverse := hO.out
              have hfin := HFN.out _ (fun u => u = tt) _ _ _ _ _ _ _ _ _ _ _ _ _ hO7 hS.out HTQ.out.symm
              obtain ⟨z0, z1, z2, zf0, zf1, zf2, -⟩ := (HR.out.keep hS.out).open3
              obtain ⟨x0, x1, x2, f0, f1, f2, -⟩ := hO7.box.open3
              unfold put3 at hfin
              have HFI := Lib.hid hfin
              clear hfin hO7
              go_wp2
              exact bodyPost_ret (v := .agg #[.slice b1 m1 d1, .slice b2 m2 d2, .slice b3 m3 d3]) (by simp [results, Tryz.results8, go_sem, z0, z1, z2]) rfl HFI.out

theorem turn_all : ∀ M : Nat, TurnK M
  | 0 => fun u hu => by have := u.size_pos; omega
  | M + 1 => turn_step M (Lib.hid (turn_all M))

end Go.Proofs.YtelhpndlejommaaGreat
