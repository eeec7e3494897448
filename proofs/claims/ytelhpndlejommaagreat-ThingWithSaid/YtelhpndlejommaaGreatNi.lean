/- slices.Clone at numbers and values; thing's clone. -/
import Derived.Test.YtelhpndlejommaaGreatNuNw
import Derived.Test.YtelhpndlejommaaGreatYq
namespace Go.Proofs.YtelhpndlejommaaGreat
open Go.RowKit Go.Shelf

/-- What a copy leaves. -/
def ClO {α : Type} (R : RowOf α) (E : TypeId) (xs : List α) (W : World) (e : Ending) (w' : World) : Prop :=
  ∃ a n c, e = .returned (.slice a n c) ∧ Hid (ROwn R E W.heap.size w' (.slice a n c) xs) ∧ Hid (Below W.heap.size W w')

theorem RFl.since' {α : Type} {R : RowOf α} {w w' : World} {sv : Value} {ns : List α} (h : RFl R w sv ns) (hs : Since w w') : RFl R w' sv ns := by
  rcases h with h | ⟨b, off, cap, e, hc⟩
  · exact .inl h
  · exact .inr ⟨b, off, cap, e, fun j u hu => Since.cell hs (hc j u hu)⟩

theorem rfl_shape {α : Type} {R : RowOf α} {w : World} {sv : Value} {ns : List α} (h : RFl R w sv ns) : (sv = .slice none 0 0 ∧ ns = []) ∨ ∃ x n c, sv = .slice (some x) n c := by
  rcases h with ⟨he | ⟨x, c, he⟩, hn⟩ | ⟨b, off, cap, e, -⟩
  · exact .inl ⟨he, hn⟩
  · exact .inr ⟨x, 0, c, he⟩
  · exact .inr ⟨_, _, _, e⟩

theorem cloI_any (sv : Value) (zs : List Int) (w : World) (h : RFl RIn w sv zs) (hl : zs.length ≤ 1000000) :
    Calls Tryz.prog 60 #[sv] w (ClO RIn 3 zs w) := by
  have q22 : ∀ (w : World) (a : Option Addr) (n c n' c' : Nat), (binOp .eql 22 (.slice a n c) (.slice none n' c')).run Tryz.prog w = .ok (.bool a.isNone) w := fun w a n c n' c' => Lib.run_eql_slice_nil w _ _ a n c n' c' Tryz.underlying22
  have HI := Lib.hid Tryz.infoI64
  rcases rfl_shape h with ⟨rfl, rfl⟩ | ⟨x, n, c, rfl⟩
  · clear h
    go_enter Tryz.func60, Tryz.ntmps60
    go_wp2
    go_ret
    exact ⟨_, _, _, rfl, Lib.hid (ROwn.nil _ _ _ _), Lib.hid (Below.refl _ _)⟩
  · have HB := Lib.hid ((Below.refl w.heap.size w).alloc (Nat.le_refl _) (.cells #[] 3))
    have HE := Lib.hid (h.since' HB.out)
    have HW : Hid (ROwn RIn 3 w.heap.size (w.alloc (.cells #[] 3)) (.slice (some ⟨w.heap.size, 0, none⟩) 0 0) []) := Lib.hid (World.ownsRow_made w #[] 0 (Nat.le_refl _) (Nat.zero_le _) rfl)
    have hl1 : ([] : List Int).length + zs.length ≤ 1000000000 := by simp only [List.length_nil]; omega
    have hsz : w.heap.size ≤ (w.alloc (.cells #[] 3)).heap.size := by simp
    clear h
    go_enter Tryz.func60, Tryz.ntmps60
    go_wp2_with (at_builtin; refine push_rows_f rfl _ _ 22 rfl RIn 3 8 _ Tryz.underlying22 HI.out rfl (by decide) w.heap.size (.slice (some ⟨w.heap.size, 0, none⟩) 0 0) [] zs (.slice (some x) n c) rfl rfl HW.out HE.out hsz hl1 ?_; intro a2 n2 c2 w2 hn2 hO2 hB2 hP2)
    go_ret
    exact ⟨_, _, _, rfl, hO2, Lib.hid (HB.out.trans hB2.out)⟩

theorem cloV_any (sv : Value) (zs : List Va) (w : World) (h : RFl RVa w sv zs) (hl : zs.length ≤ 1000000) :
    Calls Tryz.prog 61 #[sv] w (ClO RVa 46 zs w) := by
  have q22 : ∀ (w : World) (a : Option Addr) (n c n' c' : Nat), (binOp .eql 25 (.slice a n c) (.slice none n' c')).run Tryz.prog w = .ok (.bool a.isNone) w := fun w a n c n' c' => Lib.run_eql_slice_nil w _ _ a n c n' c' Tryz.underlying25
  have HI := Lib.hid Tryz.infoVal
  rcases rfl_shape h with ⟨rfl, rfl⟩ | ⟨x, n, c, rfl⟩
  · clear h
    go_enter Tryz.func61, Tryz.ntmps61
    go_wp2
    go_ret
    exact ⟨_, _, _, rfl, Lib.hid (ROwn.nil _ _ _ _), Lib.hid (Below.refl _ _)⟩
  · have HB := Lib.hid ((Below.refl w.heap.size w).alloc (Nat.le_refl _) (.cells #[] 46))
    have HE := Lib.hid (h.since' HB.out)
    have HW : Hid (ROwn RVa 46 w.heap.size (w.alloc (.cells #[] 46)) (.slice (some ⟨w.heap.size, 0, none⟩) 0 0) []) := Lib.hid (World.ownsRow_made w #[] 0 (Nat.le_refl _) (Nat.zero_le _) rfl)
    have hl1 : ([] : List Va).length + zs.length ≤ 1000000000 := by simp only [List.length_nil]; omega
    have hsz : w.heap.size ≤ (w.alloc (.cells #[] 46)).heap.size := by simp
    clear h
    go_enter Tryz.func61, Tryz.ntmps61
    go_wp2_with (at_builtin; refine push_rows_f rfl _ _ 25 rfl RVa 46 24 _ Tryz.underlying25 HI.out rfl (by decide) w.heap.size (.slice (some ⟨w.heap.size, 0, none⟩) 0 0) [] zs (.slice (some x) n c) rfl rfl HW.out HE.out hsz hl1 ?_; intro a2 n2 c2 w2 hn2 hO2 hB2 hP2)
    go_ret
    exact ⟨_, _, _, rfl, hO2, Lib.hid (HB.out.trans hB2.out)⟩

/-- A thing under way, of two new rows and a new box. -/
theorem OB.made2 (S : Nat → Prop) {B N : Nat} {X : World} {va vb : Value} {cs : List Int} {vs : List Va} (hbox : BoxL N [.slice none 0 0, .slice none 0 0, .slice none 0 0] X) (hB : B ≤ N) (oa : ROwn RIn 3 B X va cs) (ob : ROwn RVa 46 B X vb vs) (na : va.ownBlock ≠ some N) (nb : vb.ownBlock ≠ some N) (ab : ∀ g, va.ownBlock = some g → vb.ownBlock ≠ some g) :
    OB S B N (put3 X N va vb (.slice none 0 0)) va vb (.slice none 0 0) cs vs [] [] := by
  have hk := fun g (hg : g ≠ N) (hl : g < X.heap.size) => (put3_keep (S := fun k => k ≠ N) X N va vb (.slice none 0 0) (fun _ h => h)).2 g hg hl
  exact ⟨box3_set hbox, hB, oa.keepS fun g e hl => hk g (fun e2 => na (e2 ▸ e)) hl, ob.keepS fun g e hl => hk g (fun e2 => nb (e2 ▸ e)) hl, ROwn.nil _ _ _ _, Lie.nil _ _, na, nb, by simp [Value.ownBlock], ab, fun g _ => by simp [Value.ownBlock], fun g _ => by simp [Value.ownBlock]⟩

/-- A part that was made since. -/
theorem clone_part {N : Nat} {W2 wr v9 : World} {va vb vc : Value} {cs : List Int} {vs : List Va} {rs : List Tr} {ps : List Th} {u : Th} {r : Tr} (hO : OB (fun k => False ∨ W2.heap.size ≤ k) W2.heap.size N wr va vb vc cs vs rs ps) (h2 : Since W2 wr) (o : Obj)
    (hT : TSr (fun k => (False ∨ wr.heap.size ≤ k) ∧ k < v9.heap.size) v9 u r) : TS (fun k => Free (fun k => False ∨ W2.heap.size ≤ k) N va vb vc k ∧ k < (v9.alloc o).heap.size) (v9.alloc o) u (.slice r.a1 r.n1 r.c1) (.slice r.a2 r.n2 r.c2) (.slice r.a3 r.n3 r.c3) := by
  have hz := since_size h2
  have h1 := hO.part (S0 := fun k => (False ∨ wr.heap.size ≤ k) ∧ k < v9.heap.size) (fun k _ hk => by
    have hk1 := hk.1
    have hk2 : wr.heap.size ≤ k := by rcases hk1 with h | h; exact h.elim; exact h
    exact ⟨.inr (by omega), .inr hk2⟩) hT
  refine TS.keep (S := fun k => Free (fun k => False ∨ W2.heap.size ≤ k) N va vb vc k ∧ k < v9.heap.size) (S' := Free (fun k => False ∨ W2.heap.size ≤ k) N va vb vc) ⟨by simp, fun b _ hl => Below.heap_alloc _ _ _ hl⟩ (fun b _ hb => hb.1) u h1

/-- Stores into a box below leave a thing under way. -/
theorem OB.putlow {N0 N N1 : Nat} {w : World} {va vb vc : Value} {cs : List Int} {vs : List Va} {rs : List Tr} {ps : List Th} (h : OB (fun k => False ∨ N0 ≤ k) N0 N w va vb vc cs vs rs ps) (h1 : N1 < N0) (a b c : Value) : OB (fun k => False ∨ N0 ≤ k) N0 N (put3 w N1 a b c) va vb vc cs vs rs ps := by
  have hk := put3_keep (S := fun k => k ≠ N1) w N1 a b c (fun _ h => h)
  have hb := h.hB
  refine { h with box := h.box.keepF (F := fun k => k = N) rfl ⟨hk.1, fun k e hl => hk.2 k (by omega) hl⟩, oa := h.oa.keepS fun g e hl => hk.2 g (by have := (h.oa.lt g e).1; omega) hl, ob := h.ob.keepS fun g e hl => hk.2 g (by have := (h.ob.lt g e).1; omega) hl, oc := h.oc.keepS fun g e hl => hk.2 g (by have := (h.oc.lt g e).1; omega) hl, lie := h.lie.keep ⟨hk.1, fun b e hl => hk.2 b (by rcases e.1 with e | e; exact e.elim; omega) hl⟩ fun _ _ h => h }

theorem cell_pf {v v' : Value} {w w' : World} (hp : PF v w w' v') {M o : Nat} {u : Value} (hM : v.ownBlock ≠ some M) (h : w.cell? ⟨M, o, none⟩ = some u) : w'.cell? ⟨M, o, none⟩ = some u :=
  (cell_of_block (hp.1.2 M hM (block_there h)) o).trans h

theorem cell_set {w : World} {M N o p : Nat} {u v : Value} (hne : M ≠ N) (h : w.cell? ⟨M, o, none⟩ = some u) : (w.setCell ⟨N, p, none⟩ v).cell? ⟨M, o, none⟩ = some u :=
  (cell_of_block (Below.heap_setCell _ _ _ _ hne) o).trans h

/-- What clone leaves. -/
def CloneOut (t : Th) (W : World) (e : Ending) (w' : World) : Prop :=
  ∃ (r : Tr) (N N0 : Nat) (rs : List Tr), e = .returned (.agg #[.slice r.a1 r.n1 r.c1, .slice r.a2 r.n2 r.c2, .slice r.a3 r.n3 r.c3]) ∧ Hid (OB (fun k => False ∨ N0 ≤ k) N0 N w' (.slice r.a1 r.n1 r.c1) (.slice r.a2 r.n2 r.c2) (.slice r.a3 r.n3 r.c3) t.cs t.vs rs t.ps) ∧ Hid (W.heap.size ≤ N0) ∧ Hid (Below W.heap.size W w')

theorem clone_fin {t : Th} {W w' : World} (r : Tr) (N N0 : Nat) (rs : List Tr) (hO : Hid (OB (fun k => False ∨ N0 ≤ k) N0 N w' (.slice r.a1 r.n1 r.c1) (.slice r.a2 r.n2 r.c2) (.slice r.a3 r.n3 r.c3) t.cs t.vs rs t.ps)) (hN : Hid (W.heap.size ≤ N0)) (hB : Hid (Below W.heap.size W w')) :
    CloneOut t W (.returned (.agg #[.slice r.a1 r.n1 r.c1, .slice r.a2 r.n2 r.c2, .slice r.a3 r.n3 r.c3])) w' := ⟨r, N, N0, rs, rfl, hO, hN, hB⟩

theorem CloneOut.thing {t : Th} {W w' : World} {e : Ending} (h : CloneOut t W e w') : ThOut (fun _ => False) (fun u => u = t) W e w' := by
  obtain ⟨r, N, N0, rs, he, hO, hN, hB⟩ := h
  refine ⟨t, r, he, Lib.hid ?_, Lib.hid rfl, hB⟩
  have h1 := hO.out.done (fun k hk => .inr hk)
  have h2 := TS.keep (w := w') (W := w') ⟨Nat.le_refl _, fun _ _ _ => rfl⟩ (S' := fun k => False ∨ W.heap.size ≤ k) (fun k _ hk => by have := hN.out; rcases hk.1 with h | h; exact h.elim; exact .inr (by omega)) _ h1
  cases t
  exact h2

def CloneK (m : Nat) : Prop := ∀ (t : Th), t.size ≤ m → t.wf → t.wt ≤ 100000 → ∀ (a b c : Value) (W : World), TAt W.heap.size W t a b c →
  Calls Tryz.prog 31 #[.agg #[a, b, c]] W (CloneOut t W)

/-- What lies there behind clone's first region. -/
def CutO (W2 : World) (cs : List Int) (vs : List Va) (s : Value) (wx : World) : Prop :=
  ∃ NB b1 m1 d1 b2 m2 d2, s = .pointer (some ⟨NB, 0, none⟩) ∧ Hid (OB (fun k => False ∨ W2.heap.size ≤ k) W2.heap.size NB wx (.slice b1 m1 d1) (.slice b2 m2 d2) (.slice none 0 0) cs vs [] []) ∧ Hid (Since W2 wx)

set_option maxHeartbeats 8000000 in
set_option maxRecDepth 100000 in
theorem clone_step (M : Nat) (K : Hid (CloneK M)) : CloneK (M + 1) := by
  intro t ht hwf hwt a b c W hT
  obtain ⟨a1, c1', a2, c2', a3, c3, rfl, rfl, rfl, hE1, hE2, hP, hL1, hL2⟩ := hT.shape
  have hwp := ((Th.wf_eq t).1 hwf).2
  have hsz := t.size_eq
  have hwe := t.wt_eq
  have hpl := Th.wts_len t.ps
  have KS := Lib.hid fun (u : Th) (hu : u ∈ t.ps) (a b c : Value) W h => (K.out u (by have := Th.sizes_mem hu; omega) (hwp u hu) (by have := Th.wts_mem hu; omega) a b c W h).mono fun _ _ h => CloneOut.thing h
  have HFO := Lib.hid fun (r : Tr) (N N0 : Nat) (rs : List Tr) (w' : World) h1 h2 h3 => clone_fin (t := t) (W := W) (w' := w') r N N0 rs h1 h2 h3
  generalize t.cs = cs at *
  generalize t.vs = vs at *
  generalize t.ps = ps at *
  have hn1 : cs.length ≤ 100000 := by omega
  have hn2 : vs.length ≤ 100000 := by omega
  have hn3 : ps.length ≤ 100000 := by omega
  obtain ⟨W2, hW2⟩ : ∃ W2, W2 = (W.alloc (.cells #[.slice a1 cs.length c1', .slice a2 vs.length c2', .slice a3 ps.length c3] 27)).alloc (.cells #[.slice none 0 0, .slice none 0 0, .slice none 0 0] 27) := ⟨_, rfl⟩
  have hB2 : Below W.heap.size W W2 := by rw [hW2]; exact ((Below.refl _ _).alloc (Nat.le_refl _) _).alloc (by simp) _
  have hX : BoxL W.heap.size [.slice a1 cs.length c1', .slice a2 vs.length c2', .slice a3 ps.length c3] W2 := by rw [hW2]; exact (BoxL.made W _ _).under _
  have hR : BoxL (W.heap.size + 1) [.slice none 0 0, .slice none 0 0, .slice none 0 0] W2 := by
    rw [hW2]
    have := BoxL.made (W.alloc (.cells #[.slice a1 cs.length c1', .slice a2 vs.length c2', .slice a3 ps.length c3] 27)) #[.slice none 0 0, .slice none 0 0, .slice none 0 0] 27
    rwa [World.size_alloc] at this
  have hsz2 : W2.heap.size = W.heap.size + 1 + 1 := by rw [hW2, World.size_alloc, World.size_alloc]
  have hBs : ∀ w, Since W2 w → Below W.heap.size W w := fun w h => hB2.trans (Below.mono h hB2.size)
  have HBS := Lib.hid hBs
  have KI := Lib.hid fun (w : World) (hS : Since W2 w) => cloI_any _ cs w (hE1.low hL1 (hBs w hS)).rfl' (by omega)
  have KV := Lib.hid fun (w : World) (hS : Since W2 w) => cloV_any _ vs w (hE2.low hL2 (hBs w hS)).rfl' (by omega)
  have HC3 := Lib.hid fun (w : World) (hS : Since W2 w) => Ps.below (hBs w hS) hP
  have HX := Lib.hid hX
  have HR := Lib.hid hR
  have HSZ : Hid (W.heap.size + 1 < W2.heap.size ∧ W.heap.size ≤ W2.heap.size ∧ W.heap.size ≤ W.heap.size + 1) := Lib.hid (by omega)
  generalize hc1 : cs.length = n1 at *
  generalize hc2 : vs.length = n2 at *
  generalize hc3 : ps.length = n3 at *
  have HN3 := Lib.hid hc3
  have hs_W2 : Since W2 W2 := Since.refl _
  obtain ⟨c0, c1, c2, -⟩ := hX.open3
  clear hX hR hsz2 hP hE1 hE2 hL1 hL2 hT hwf hB2 ht hsz hwe hpl hwp hwt K hBs hc1 hc2 hc3
  go_enter Tryz.func31, Tryz.ntmps31
  go_upto_region 1 with (fail)
  rw [← hW2]
  clear hW2
  generalize hN1 : W.heap.size + 1 = N1 at *
  clear hN1
  go_cut [3] (fun s wx => CutO W2 cs vs s wx)
  case first =>
    refine wp_region_noPanic ?_
    refine wp_region_held_drew (S := fun w' => w'.cell? ⟨W.heap.size, 0, none⟩ = some (.slice a1 n1 c1') ∧ w'.cell? ⟨W.heap.size, 1, none⟩ = some (.slice a2 n2 c2') ∧ Since W2 w') (by kernel_rfl) (by (with_reducible refine ⟨Since.cell ?_ c0, Since.cell ?_ c1, ?_⟩) <;> (repeat (first | with_reducible assumption | with_reducible exact Since.refl _ | with_reducible refine Since.alloc ?_ _ | with_reducible refine Since.drew ?_))) (fun hHeld => ?_)
    refine wpAnyH_take (i := 0) (oi := ⟨some 6, Op.fieldAddr 27 (Operand.tmp 1) 0, 0, _, _, none⟩) (v := ?_) rfl (by kernel_rfl) (by kernel_rfl) (by kernel_rfl) (fun _ _ _ h => h) (Or.inl ⟨by rfl, ?_⟩) (by assumption) ?_
    rotate_left 1
    · (intro w hSw; (try dsimp only at hSw); go_simp; first | done | with_reducible rfl)
    try simp only [Act.put, List.setIfInBounds_toArray, List.set_cons_zero, List.set_cons_succ]
    refine wpAnyH_take (i := 1) (oi := ⟨some 7, Op.load 22 (Operand.tmp 6), 22, _, _, none⟩) (v := ?_) rfl (by kernel_rfl) (by kernel_rfl) (by kernel_rfl) (fun _ _ _ h => h) (Or.inl ⟨by rfl, ?_⟩) (by assumption) ?_
    rotate_left 1
    · (intro w hSw; (try dsimp only at hSw); go_simp; first | done | with_reducible rfl)
    try simp only [Act.put, List.setIfInBounds_toArray, List.set_cons_zero, List.set_cons_succ]
    refine wpAnyH_take (i := 3) (oi := ⟨some 9, Op.fieldAddr 27 (Operand.tmp 1) 1, 0, _, _, none⟩) (v := ?_) rfl (by kernel_rfl) (by kernel_rfl) (by kernel_rfl) (fun _ _ _ h => h) (Or.inl ⟨by rfl, ?_⟩) (by assumption) ?_
    rotate_left 1
    · (intro w hSw; (try dsimp only at hSw); go_simp; first | done | with_reducible rfl)
    try simp only [Act.put, List.setIfInBounds_toArray, List.set_cons_zero, List.set_cons_succ]
    refine wpAnyH_take (i := 4) (oi := ⟨some 10, Op.load 25 (Operand.tmp 9), 25, _, _, none⟩) (v := ?_) rfl (by kernel_rfl) (by kernel_rfl) (by kernel_rfl) (fun _ _ _ h => h) (Or.inl ⟨by rfl, ?_⟩) (by assumption) ?_
    rotate_left 1
    · (intro w hSw; (try dsimp only at hSw); go_simp; first | done | with_reducible rfl)
    try simp only [Act.put, List.setIfInBounds_toArray, List.set_cons_zero, List.set_cons_succ]
    refine wpAnyH_ready (rs := [2, 7]) (by kernel_rfl) (by simp) ?_
    refine AllReadyH.cons (o := ⟨some 8, Op.call { callee := Callee.value (Operand.func 60), args := #[Operand.tmp 7], argTypes := #[22] }, 22, _, _, none⟩) rfl (fun K hK => ?_) (AllReadyH.cons (o := ⟨some 3, Op.alloc 27, 0, _, _, none⟩) rfl (fun K hK => ?_) AllReadyH.nil)
    · go_simp
      refine (KI.out _ (by (repeat (first | with_reducible assumption | with_reducible exact Since.refl _ | with_reducible refine Since.alloc ?_ _ | with_reducible refine Since.drew ?_)))).mono ?_
      rintro e v1 ⟨b1, m1, d1, rfl, hOh, hBh⟩
      have hp : Since W2 v1 := by (with_reducible refine Since.step ?_ hBh.out); (repeat (first | with_reducible assumption | with_reducible exact Since.refl _ | with_reducible refine Since.alloc ?_ _ | with_reducible refine Since.drew ?_))
      have hs_v1 : Since W2 v1 := Since.step hs_W2 hp
      have hA1 : ∀ g, (.slice b1 m1 d1 : Value).ownBlock = some g → (World.heap W2).size ≤ g ∧ g < (World.heap v1).size := fun g e => hOh.out.lt g e
      have hO1 := hOh.out.base (B' := W2.heap.size) (show W2.heap.size ≤ (World.heap W2).size from since_size hs_W2)
      have hz_v1 : (World.heap W2).size ≤ (World.heap v1).size := since_size hp
      clear hOh hBh hp
      try go_wp2_with fail
      refine hK.out _ _ ?_ (fun hHeld => ?_)
      · (with_reducible refine ⟨Since.cell ?_ c0, Since.cell ?_ c1, ?_⟩) <;> (repeat (first | with_reducible assumption | with_reducible exact Since.refl _ | with_reducible refine Since.alloc ?_ _ | with_reducible refine Since.drew ?_))
      clear hK K
      try simp only [Act.put, List.setIfInBounds_toArray, List.set_cons_zero, List.set_cons_succ]
      refine wpAnyH_ready (rs := [5, 7]) (by kernel_rfl) (by simp) ?_
      refine AllReadyH.cons (o := ⟨some 11, Op.call { callee := Callee.value (Operand.func 61), args := #[Operand.tmp 10], argTypes := #[25] }, 25, _, _, none⟩) rfl (fun K hK => ?_) (AllReadyH.cons (o := ⟨some 3, Op.alloc 27, 0, _, _, none⟩) rfl (fun K hK => ?_) AllReadyH.nil)
      · go_simp
        refine (KV.out _ (by (repeat (first | with_reducible assumption | with_reducible exact Since.refl _ | with_reducible refine Since.alloc ?_ _ | with_reducible refine Since.drew ?_)))).mono ?_
        rintro e v2 ⟨b2, m2, d2, rfl, hOh, hBh⟩
        have hp : Since v1 v2 := by (with_reducible refine Since.step ?_ hBh.out); (repeat (first | with_reducible assumption | with_reducible exact Since.refl _ | with_reducible refine Since.alloc ?_ _ | with_reducible refine Since.drew ?_))
        have hs_v2 : Since W2 v2 := Since.step hs_v1 hp
        have hA2 : ∀ g, (.slice b2 m2 d2 : Value).ownBlock = some g → (World.heap v1).size ≤ g ∧ g < (World.heap v2).size := fun g e => hOh.out.lt g e
        have hO1 := hO1.below hp
        have hO2 := hOh.out.base (B' := W2.heap.size) (show W2.heap.size ≤ (World.heap v1).size from since_size hs_v1)
        have hz_v2 : (World.heap v1).size ≤ (World.heap v2).size := since_size hp
        clear hOh hBh hp
        try go_wp2_with fail
        refine hK.out _ _ ?_ (fun hHeld => ?_)
        · (with_reducible refine ⟨Since.cell ?_ c0, Since.cell ?_ c1, ?_⟩) <;> (repeat (first | with_reducible assumption | with_reducible exact Since.refl _ | with_reducible refine Since.alloc ?_ _ | with_reducible refine Since.drew ?_))
        clear hK K
        try simp only [Act.put, List.setIfInBounds_toArray, List.set_cons_zero, List.set_cons_succ]
        refine wpAnyH_take (i := 6) (oi := ⟨some 12, Op.build 27 #[(0, Operand.tmp 8), (1, Operand.tmp 11)], 27, _, _, none⟩) (v := ?_) rfl (by kernel_rfl) (by kernel_rfl) (by kernel_rfl) (fun _ _ _ h => h) (Or.inl ⟨by rfl, ?_⟩) (by assumption) ?_
        rotate_left 1
        · (intro w hSw; (try dsimp only at hSw); go_simp; first | done | with_reducible rfl)
        try simp only [Act.put, List.setIfInBounds_toArray, List.set_cons_zero, List.set_cons_succ]
        refine wpAnyH_ready (rs := [7]) (by kernel_rfl) (by simp) ?_
        refine AllReadyH.cons (o := ⟨some 3, Op.alloc 27, 0, _, _, none⟩) rfl (fun K hK => ?_) AllReadyH.nil
        go_simp
        try go_wp2_with fail
        refine hK.out _ _ ?_ (fun hHeld => ?_)
        · (with_reducible refine ⟨Since.cell ?_ c0, Since.cell ?_ c1, ?_⟩) <;> (repeat (first | with_reducible assumption | with_reducible exact Since.refl _ | with_reducible refine Since.alloc ?_ _ | with_reducible refine Since.drew ?_))
        clear hK K
        try simp only [Act.put, List.setIfInBounds_toArray, List.set_cons_zero, List.set_cons_succ]
        obtain ⟨z, hz⟩ : ∃ v, v = World.alloc v2 (.cells #[.slice none 0 0, .slice none 0 0, .slice none 0 0] 27) := ⟨_, rfl⟩
        obtain ⟨u, hu⟩ : ∃ v, v = World.alloc (World.drew v2) (.cells #[.slice none 0 0, .slice none 0 0, .slice none 0 0] 27) := ⟨_, rfl⟩
        have hzX : BoxL (World.heap v2).size [.slice none 0 0, .slice none 0 0, .slice none 0 0] z ∧ Since v2 z := by rw [hz]; exact ⟨BoxL.made v2 _ _, Since.alloc (Since.refl _) _⟩
        have huX : BoxL (World.heap v2).size [.slice none 0 0, .slice none 0 0, .slice none 0 0] u ∧ Since v2 u := by rw [hu]; exact ⟨BoxL.made (World.drew v2) _ _, Since.alloc (Since.drew (Since.refl _)) _⟩
        first | (rw [← hz]; clear hu huX u; have hX := hzX; clear hzX hz; generalize z = y3 at *) | (rw [← hu]; clear hz hzX z; have hX := huX; clear huX hu; generalize u = y3 at *)
        have hp := hX.2
        have hX := hX.1
        have hs_y3 : Since W2 y3 := Since.step hs_v2 hp
        have hNH : (World.heap v2).size < (World.heap y3).size := hX.1
        have hO1 := hO1.below hp
        have hO2 := hO2.below hp
        clear hp
        generalize hNN : (World.heap v2).size = NB at hX hNH ⊢
        have hNL : W2.heap.size ≤ NB := by rw [← hNN]; exact since_size hs_v2
        obtain ⟨z0, z1, z2, zf0, zf1, zf2, -⟩ := hX.open3
        refine wpAnyH_ready (rs := [8]) (by kernel_rfl) (by simp) ?_
        refine AllReadyH.cons (o := ⟨none, Op.store 27 (Operand.tmp 3) (Operand.tmp 12), 0, _, _, none⟩) rfl (fun K hK => ?_) AllReadyH.nil
        go_simp
        go_wp2_with fail
        have hse := fun o v => since_set hs_y3 hNL o v
        have hs9 : Since W2 (put3 y3 NB (.slice b1 m1 d1) (.slice b2 m2 d2) (.slice none 0 0)) := put3_below hs_y3 hNL _ _ _
        unfold put3 at hs9
        refine hK.out _ _ ?_ (fun hHeld => ?_)
        · (with_reducible refine ⟨Since.cell ?_ c0, Since.cell ?_ c1, ?_⟩) <;> (repeat (first | with_reducible assumption | with_reducible exact Since.refl _ | with_reducible refine Since.alloc ?_ _ | with_reducible refine Since.drew ?_))
        clear hK K
        try simp only [Act.put, List.setIfInBounds_toArray, List.set_cons_zero, List.set_cons_succ]
        refine wpAnyH_done (by kernel_rfl) ?_ _
        refine NoPanic.normal ?_
        go_wp2_with fail
        go_meet
        have HOB := OB.made2 (fun k => False ∨ W2.heap.size ≤ k) hX hNL hO1 hO2 (fun e => by have := hA1 _ e; omega) (fun e => by have := hA2 _ e; omega) (fun g e e2 => by have := hA1 _ e; have := hA2 _ e2; omega)
        unfold put3 at HOB
        exact ⟨_, _, _, _, _, _, _, rfl, Lib.hid HOB, Lib.hid hs9⟩
      · go_simp
        try go_wp2_with fail
        refine hK.out _ _ ?_ (fun hHeld => ?_)
        · (with_reducible refine ⟨Since.cell ?_ c0, Since.cell ?_ c1, ?_⟩) <;> (repeat (first | with_reducible assumption | with_reducible exact Since.refl _ | with_reducible refine Since.alloc ?_ _ | with_reducible refine Since.drew ?_))
        clear hK K
        try simp only [Act.put, List.setIfInBounds_toArray, List.set_cons_zero, List.set_cons_succ]
        obtain ⟨z, hz⟩ : ∃ v, v = World.alloc v1 (.cells #[.slice none 0 0, .slice none 0 0, .slice none 0 0] 27) := ⟨_, rfl⟩
        obtain ⟨u, hu⟩ : ∃ v, v = World.alloc (World.drew v1) (.cells #[.slice none 0 0, .slice none 0 0, .slice none 0 0] 27) := ⟨_, rfl⟩
        have hzX : BoxL (World.heap v1).size [.slice none 0 0, .slice none 0 0, .slice none 0 0] z ∧ Since v1 z := by rw [hz]; exact ⟨BoxL.made v1 _ _, Since.alloc (Since.refl _) _⟩
        have huX : BoxL (World.heap v1).size [.slice none 0 0, .slice none 0 0, .slice none 0 0] u ∧ Since v1 u := by rw [hu]; exact ⟨BoxL.made (World.drew v1) _ _, Since.alloc (Since.drew (Since.refl _)) _⟩
        first | (rw [← hz]; clear hu huX u; have hX := hzX; clear hzX hz; generalize z = y4 at *) | (rw [← hu]; clear hz hzX z; have hX := huX; clear huX hu; generalize u = y4 at *)
        have hp := hX.2
        have hX := hX.1
        have hs_y4 : Since W2 y4 := Since.step hs_v1 hp
        have hNH : (World.heap v1).size < (World.heap y4).size := hX.1
        have hO1 := hO1.below hp
        clear hp
        generalize hNN : (World.heap v1).size = NB at hX hNH ⊢
        have hNL : W2.heap.size ≤ NB := by rw [← hNN]; exact since_size hs_v1
        refine wpAnyH_ready (rs := [5]) (by kernel_rfl) (by simp) ?_
        refine AllReadyH.cons (o := ⟨some 11, Op.call { callee := Callee.value (Operand.func 61), args := #[Operand.tmp 10], argTypes := #[25] }, 25, _, _, none⟩) rfl (fun K hK => ?_) AllReadyH.nil
        go_simp
        refine (KV.out _ (by (repeat (first | with_reducible assumption | with_reducible exact Since.refl _ | with_reducible refine Since.alloc ?_ _ | with_reducible refine Since.drew ?_)))).mono ?_
        rintro e v5 ⟨b2, m2, d2, rfl, hOh, hBh⟩
        have hp : Since y4 v5 := by (with_reducible refine Since.step ?_ hBh.out); (repeat (first | with_reducible assumption | with_reducible exact Since.refl _ | with_reducible refine Since.alloc ?_ _ | with_reducible refine Since.drew ?_))
        have hs_v5 : Since W2 v5 := Since.step hs_y4 hp
        have hA2 : ∀ g, (.slice b2 m2 d2 : Value).ownBlock = some g → (World.heap y4).size ≤ g ∧ g < (World.heap v5).size := fun g e => hOh.out.lt g e
        have hO1 := hO1.below hp
        have hX := hX.keep hp
        have hO2 := hOh.out.base (B' := W2.heap.size) (show W2.heap.size ≤ (World.heap y4).size from since_size hs_y4)
        have hz_v5 : (World.heap y4).size ≤ (World.heap v5).size := since_size hp
        clear hOh hBh hp
        try go_wp2_with fail
        refine hK.out _ _ ?_ (fun hHeld => ?_)
        · (with_reducible refine ⟨Since.cell ?_ c0, Since.cell ?_ c1, ?_⟩) <;> (repeat (first | with_reducible assumption | with_reducible exact Since.refl _ | with_reducible refine Since.alloc ?_ _ | with_reducible refine Since.drew ?_))
        clear hK K
        try simp only [Act.put, List.setIfInBounds_toArray, List.set_cons_zero, List.set_cons_succ]
        refine wpAnyH_take (i := 6) (oi := ⟨some 12, Op.build 27 #[(0, Operand.tmp 8), (1, Operand.tmp 11)], 27, _, _, none⟩) (v := ?_) rfl (by kernel_rfl) (by kernel_rfl) (by kernel_rfl) (fun _ _ _ h => h) (Or.inl ⟨by rfl, ?_⟩) (by assumption) ?_
        rotate_left 1
        · (intro w hSw; (try dsimp only at hSw); go_simp; first | done | with_reducible rfl)
        try simp only [Act.put, List.setIfInBounds_toArray, List.set_cons_zero, List.set_cons_succ]
        obtain ⟨z0, z1, z2, zf0, zf1, zf2, -⟩ := hX.open3
        refine wpAnyH_ready (rs := [8]) (by kernel_rfl) (by simp) ?_
        refine AllReadyH.cons (o := ⟨none, Op.store 27 (Operand.tmp 3) (Operand.tmp 12), 0, _, _, none⟩) rfl (fun K hK => ?_) AllReadyH.nil
        go_simp
        go_wp2_with fail
        have hse := fun o v => since_set hs_v5 hNL o v
        have hs9 : Since W2 (put3 v5 NB (.slice b1 m1 d1) (.slice b2 m2 d2) (.slice none 0 0)) := put3_below hs_v5 hNL _ _ _
        unfold put3 at hs9
        refine hK.out _ _ ?_ (fun hHeld => ?_)
        · (with_reducible refine ⟨Since.cell ?_ c0, Since.cell ?_ c1, ?_⟩) <;> (repeat (first | with_reducible assumption | with_reducible exact Since.refl _ | with_reducible refine Since.alloc ?_ _ | with_reducible refine Since.drew ?_))
        clear hK K
        try simp only [Act.put, List.setIfInBounds_toArray, List.set_cons_zero, List.set_cons_succ]
        refine wpAnyH_done (by kernel_rfl) ?_ _
        refine NoPanic.normal ?_
        go_wp2_with fail
        go_meet
        have HOB := OB.made2 (fun k => False ∨ W2.heap.size ≤ k) hX hNL hO1 hO2 (fun e => by have := hA1 _ e; omega) (fun e => by have := hA2 _ e; omega) (fun g e e2 => by have := hA1 _ e; have := hA2 _ e2; omega)
        unfold put3 at HOB
        exact ⟨_, _, _, _, _, _, _, rfl, Lib.hid HOB, Lib.hid hs9⟩
    · go_simp
      try go_wp2_with fail
      refine hK.out _ _ ?_ (fun hHeld => ?_)
      · (with_reducible refine ⟨Since.cell ?_ c0, Since.cell ?_ c1, ?_⟩) <;> (repeat (first | with_reducible assumption | with_reducible exact Since.refl _ | with_reducible refine Since.alloc ?_ _ | with_reducible refine Since.drew ?_))
      clear hK K
      try simp only [Act.put, List.setIfInBounds_toArray, List.set_cons_zero, List.set_cons_succ]
      obtain ⟨z, hz⟩ : ∃ v, v = World.alloc W2 (.cells #[.slice none 0 0, .slice none 0 0, .slice none 0 0] 27) := ⟨_, rfl⟩
      obtain ⟨u, hu⟩ : ∃ v, v = World.alloc (World.drew W2) (.cells #[.slice none 0 0, .slice none 0 0, .slice none 0 0] 27) := ⟨_, rfl⟩
      have hzX : BoxL (World.heap W2).size [.slice none 0 0, .slice none 0 0, .slice none 0 0] z ∧ Since W2 z := by rw [hz]; exact ⟨BoxL.made W2 _ _, Since.alloc (Since.refl _) _⟩
      have huX : BoxL (World.heap W2).size [.slice none 0 0, .slice none 0 0, .slice none 0 0] u ∧ Since W2 u := by rw [hu]; exact ⟨BoxL.made (World.drew W2) _ _, Since.alloc (Since.drew (Since.refl _)) _⟩
      first | (rw [← hz]; clear hu huX u; have hX := hzX; clear hzX hz; generalize z = y6 at *) | (rw [← hu]; clear hz hzX z; have hX := huX; clear huX hu; generalize u = y6 at *)
      have hp := hX.2
      have hX := hX.1
      have hs_y6 : Since W2 y6 := Since.step hs_W2 hp
      have hNH : (World.heap W2).size < (World.heap y6).size := hX.1
      clear hp
      generalize hNN : (World.heap W2).size = NB at hX hNH ⊢
      have hNL : W2.heap.size ≤ NB := by rw [← hNN]; exact since_size hs_W2
      refine wpAnyH_ready (rs := [2]) (by kernel_rfl) (by simp) ?_
      refine AllReadyH.cons (o := ⟨some 8, Op.call { callee := Callee.value (Operand.func 60), args := #[Operand.tmp 7], argTypes := #[22] }, 22, _, _, none⟩) rfl (fun K hK => ?_) AllReadyH.nil
      go_simp
      refine (KI.out _ (by (repeat (first | with_reducible assumption | with_reducible exact Since.refl _ | with_reducible refine Since.alloc ?_ _ | with_reducible refine Since.drew ?_)))).mono ?_
      rintro e v7 ⟨b1, m1, d1, rfl, hOh, hBh⟩
      have hp : Since y6 v7 := by (with_reducible refine Since.step ?_ hBh.out); (repeat (first | with_reducible assumption | with_reducible exact Since.refl _ | with_reducible refine Since.alloc ?_ _ | with_reducible refine Since.drew ?_))
      have hs_v7 : Since W2 v7 := Since.step hs_y6 hp
      have hA1 : ∀ g, (.slice b1 m1 d1 : Value).ownBlock = some g → (World.heap y6).size ≤ g ∧ g < (World.heap v7).size := fun g e => hOh.out.lt g e
      have hX := hX.keep hp
      have hO1 := hOh.out.base (B' := W2.heap.size) (show W2.heap.size ≤ (World.heap y6).size from since_size hs_y6)
      have hz_v7 : (World.heap y6).size ≤ (World.heap v7).size := since_size hp
      clear hOh hBh hp
      try go_wp2_with fail
      refine hK.out _ _ ?_ (fun hHeld => ?_)
      · (with_reducible refine ⟨Since.cell ?_ c0, Since.cell ?_ c1, ?_⟩) <;> (repeat (first | with_reducible assumption | with_reducible exact Since.refl _ | with_reducible refine Since.alloc ?_ _ | with_reducible refine Since.drew ?_))
      clear hK K
      try simp only [Act.put, List.setIfInBounds_toArray, List.set_cons_zero, List.set_cons_succ]
      refine wpAnyH_ready (rs := [5]) (by kernel_rfl) (by simp) ?_
      refine AllReadyH.cons (o := ⟨some 11, Op.call { callee := Callee.value (Operand.func 61), args := #[Operand.tmp 10], argTypes := #[25] }, 25, _, _, none⟩) rfl (fun K hK => ?_) AllReadyH.nil
      go_simp
      refine (KV.out _ (by (repeat (first | with_reducible assumption | with_reducible exact Since.refl _ | with_reducible refine Since.alloc ?_ _ | with_reducible refine Since.drew ?_)))).mono ?_
      rintro e v8 ⟨b2, m2, d2, rfl, hOh, hBh⟩
      have hp : Since v7 v8 := by (with_reducible refine Since.step ?_ hBh.out); (repeat (first | with_reducible assumption | with_reducible exact Since.refl _ | with_reducible refine Since.alloc ?_ _ | with_reducible refine Since.drew ?_))
      have hs_v8 : Since W2 v8 := Since.step hs_v7 hp
      have hA2 : ∀ g, (.slice b2 m2 d2 : Value).ownBlock = some g → (World.heap v7).size ≤ g ∧ g < (World.heap v8).size := fun g e => hOh.out.lt g e
      have hO1 := hO1.below hp
      have hX := hX.keep hp
      have hO2 := hOh.out.base (B' := W2.heap.size) (show W2.heap.size ≤ (World.heap v7).size from since_size hs_v7)
      have hz_v8 : (World.heap v7).size ≤ (World.heap v8).size := since_size hp
      clear hOh hBh hp
      try go_wp2_with fail
      refine hK.out _ _ ?_ (fun hHeld => ?_)
      · (with_reducible refine ⟨Since.cell ?_ c0, Since.cell ?_ c1, ?_⟩) <;> (repeat (first | with_reducible assumption | with_reducible exact Since.refl _ | with_reducible refine Since.alloc ?_ _ | with_reducible refine Since.drew ?_))
      clear hK K
      try simp only [Act.put, List.setIfInBounds_toArray, List.set_cons_zero, List.set_cons_succ]
      refine wpAnyH_take (i := 6) (oi := ⟨some 12, Op.build 27 #[(0, Operand.tmp 8), (1, Operand.tmp 11)], 27, _, _, none⟩) (v := ?_) rfl (by kernel_rfl) (by kernel_rfl) (by kernel_rfl) (fun _ _ _ h => h) (Or.inl ⟨by rfl, ?_⟩) (by assumption) ?_
      rotate_left 1
      · (intro w hSw; (try dsimp only at hSw); go_simp; first | done | with_reducible rfl)
      try simp only [Act.put, List.setIfInBounds_toArray, List.set_cons_zero, List.set_cons_succ]
      obtain ⟨z0, z1, z2, zf0, zf1, zf2, -⟩ := hX.open3
      refine wpAnyH_ready (rs := [8]) (by kernel_rfl) (by simp) ?_
      refine AllReadyH.cons (o := ⟨none, Op.store 27 (Operand.tmp 3) (Operand.tmp 12), 0, _, _, none⟩) rfl (fun K hK => ?_) AllReadyH.nil
      go_simp
      go_wp2_with fail
      have hse := fun o v => since_set hs_v8 hNL o v
      have hs9 : Since W2 (put3 v8 NB (.slice b1 m1 d1) (.slice b2 m2 d2) (.slice none 0 0)) := put3_below hs_v8 hNL _ _ _
      unfold put3 at hs9
      refine hK.out _ _ ?_ (fun hHeld => ?_)
      · (with_reducible refine ⟨Since.cell ?_ c0, Since.cell ?_ c1, ?_⟩) <;> (repeat (first | with_reducible assumption | with_reducible exact Since.refl _ | with_reducible refine Since.alloc ?_ _ | with_reducible refine Since.drew ?_))
      clear hK K
      try simp only [Act.put, List.setIfInBounds_toArray, List.set_cons_zero, List.set_cons_succ]
      refine wpAnyH_done (by kernel_rfl) ?_ _
      refine NoPanic.normal ?_
      go_wp2_with fail
      go_meet
      have HOB := OB.made2 (fun k => False ∨ W2.heap.size ≤ k) hX hNL hO1 hO2 (fun e => by have := hA1 _ e; omega) (fun e => by have := hA2 _ e; omega) (fun g e e2 => by have := hA1 _ e; have := hA2 _ e2; omega)
      unfold put3 at HOB
      exact ⟨_, _, _, _, _, _, _, rfl, Lib.hid HOB, Lib.hid hs9⟩
  case rest =>
  obtain ⟨NB, b1, m1, d1, b2, m2, d2, rfl, hO, hS⟩ := hcut
  rename World => wo
  clear KI KV c0 c1 c2 hs_W2
  obtain ⟨p0, p1, p2, -⟩ := (HX.out.keep hS.out).open3
  have HO1 : Hid (OB (fun k => False ∨ W2.heap.size ≤ k) W2.heap.size NB wo (.slice b1 m1 d1) (.slice b2 m2 d2) (.slice none 0 0) cs vs [] (ps.take 0)) := hO
  have HS1 := hS
  clear hO hS
  go_wp2
  clear p0 p1 p2
  go_loopw [16] (fun v wr => ∃ (k : Nat) (b3 : Option Addr) (m3 d3 : Nat) (rs : List Tr), k ≤ n3 ∧ v = .int .i64 k ∧ Hid (OB (fun k => False ∨ W2.heap.size ≤ k) W2.heap.size NB wr (.slice b1 m1 d1) (.slice b2 m2 d2) (.slice b3 m3 d3) cs vs rs (ps.take k)) ∧ Hid (Since W2 wr)) (fun v _ => n3 - (intOf v).toNat)
  case atStart => exact ⟨0, none, 0, 0, [], by omega, rfl, HO1, HS1⟩
  case round =>
    clear HO1 HS1
    obtain ⟨k, b3, m3, d3, rs, hk, rfl, hO, hS⟩ := hrel
    by_cases hlt : k < n3
    · have i1 : (k : Int) < n3 := by omega
      have i4 : ((k : Int)).toNat = k := by omega
      obtain ⟨g, u, rfl, -, -, -, hu, v1, v2, v3, e0, e1, e2, hTu⟩ := (HC3.out wr hS.out).get (j := k) (by omega)
      have hum := List.mem_of_getElem? hu
      have HST : Hid (ps.take (k + 1) = ps.take k ++ [u]) := Lib.hid (by rw [List.take_add_one, hu]; rfl)
      obtain ⟨⟨q1, r1, y1, q2, r2, y2, q3, r3, y3⟩, rfl, rfl, rfl, -⟩ := (TAt.ts u hTu).shape
      simp only at e0 e1 e2 hTu
      have hln : rs.length ≤ 100000 := by
        have h1 := hO.out.lie.1
        rw [h1, List.length_take]
        omega
      have hl1 : rs.length + 1 ≤ 1000000000 := by omega
      have HTU := Lib.hid hTu
      rename World => wx
      obtain ⟨wr, hwr⟩ : ∃ wr, wr = wx.alloc (.cells #[.slice q1 r1 y1, .slice q2 r2 y2, .slice q3 r3 y3] 27) := ⟨_, rfl⟩
      have hSx : Since wx wr := by rw [hwr]; exact Since.alloc (Since.refl _) _
      have hX5 : BoxL wx.heap.size [.slice q1 r1 y1, .slice q2 r2 y2, .slice q3 r3 y3] wr := by rw [hwr]; exact BoxL.made _ _ _
      have hS2 : Since W2 wr := Since.step hS.out hSx
      have KQ := Lib.hid fun W (h : Since wr W) => KS.out u hum _ _ _ W (TAt.below (Since.step hSx h) HTU.out)
      have HOR := Lib.hid (hO.out.frame hSx)
      have hM5 : (.slice b3 m3 d3 : Value).ownBlock ≠ some wx.heap.size := fun e => by have := (hO.out.oc.lt _ e).2; omega
      have hM6 : wx.heap.size ≠ NB := by have := hO.out.box.1; omega
      clear hu hum hTu hln
      go_upto_region 5 with (fail)
      rw [← hwr]
      generalize wx.heap.size = M5 at *
      clear hwr e0 e1 e2 hSx
      obtain ⟨o0, o1, o2, -⟩ := hX5.open3
      obtain ⟨x0, x1, x2, f0, f1, f2, -⟩ := HOR.out.box.open3
      refine wp_region_noPanic ?_
      refine wp_region_held_drew (S := fun w' => w'.cell? ⟨M5, 0, none⟩ = some (.slice q1 r1 y1) ∧ w'.cell? ⟨M5, 1, none⟩ = some (.slice q2 r2 y2) ∧ w'.cell? ⟨M5, 2, none⟩ = some (.slice q3 r3 y3) ∧ Since W2 w') (by kernel_rfl) (by (with_reducible refine ⟨Since.cell ?_ o0, Since.cell ?_ o1, Since.cell ?_ o2, ?_⟩) <;> (repeat (first | with_reducible assumption | with_reducible exact Since.refl _ | with_reducible refine Since.alloc ?_ _ | with_reducible refine Since.drew ?_))) (fun hHeld => ?_)
      refine wpAnyH_take (i := 0) (oi := ⟨some 20, Op.fieldAddr 27 (Operand.tmp 3) 2, 0, _, _, none⟩) (v := ?_) rfl (by kernel_rfl) (by kernel_rfl) (by kernel_rfl) (fun _ _ _ h => h) (Or.inl ⟨by rfl, ?_⟩) (by assumption) ?_
      rotate_left 1
      · (intro w hSw; (try dsimp only at hSw); go_simp; first | done | with_reducible rfl)
      try simp only [Act.put, List.setIfInBounds_toArray, List.set_cons_zero, List.set_cons_succ]
      refine wpAnyH_take (i := 2) (oi := ⟨some 22, Op.load 27 (Operand.tmp 5), 27, _, _, none⟩) (v := ?_) rfl (by kernel_rfl) (by kernel_rfl) (by kernel_rfl) (fun _ _ _ h => h) (Or.inl ⟨by rfl, ?_⟩) (by assumption) ?_
      rotate_left 1
      · (intro w hSw; (try dsimp only at hSw); go_simp; first | done | with_reducible rfl)
      try simp only [Act.put, List.setIfInBounds_toArray, List.set_cons_zero, List.set_cons_succ]
      refine wpAnyH_ready (rs := [1, 3]) (by kernel_rfl) (by simp) ?_
      refine AllReadyH.cons (o := ⟨some 21, Op.load 23 (Operand.tmp 20), 23, _, _, none⟩) rfl (fun K hK => ?_) (AllReadyH.cons (o := ⟨some 23, Op.call { callee := Callee.value (Operand.func 31), args := #[Operand.tmp 22], argTypes := #[27] }, 27, _, _, none⟩) rfl (fun K hK => ?_) AllReadyH.nil)
      · go_simp
        try go_wp2_with fail
        refine hK.out _ _ ?_ (fun hHeld => ?_)
        · (with_reducible refine ⟨Since.cell ?_ o0, Since.cell ?_ o1, Since.cell ?_ o2, ?_⟩) <;> (repeat (first | with_reducible assumption | with_reducible exact Since.refl _ | with_reducible refine Since.alloc ?_ _ | with_reducible refine Since.drew ?_))
        clear hK K
        try simp only [Act.put, List.setIfInBounds_toArray, List.set_cons_zero, List.set_cons_succ]
        refine wpAnyH_ready (rs := [3]) (by kernel_rfl) (by simp) ?_
        refine AllReadyH.cons (o := ⟨some 23, Op.call { callee := Callee.value (Operand.func 31), args := #[Operand.tmp 22], argTypes := #[27] }, 27, _, _, none⟩) rfl (fun K hK => ?_) AllReadyH.nil
        go_simp
        refine (KQ.out _ (by (repeat (first | with_reducible assumption | with_reducible exact Since.refl _ | with_reducible refine Since.alloc ?_ _ | with_reducible refine Since.drew ?_)))).mono ?_
        rintro e v9 ⟨u9, ⟨s1, t1, u1, s2, t2, u2, s3, t3, u3⟩, rfl, hT9, HP9, hB9⟩
        try simp only
        have hSv : Since wr v9 := by (with_reducible refine Since.step ?_ hB9.out); (repeat (first | with_reducible assumption | with_reducible exact Since.refl _ | with_reducible refine Since.alloc ?_ _ | with_reducible refine Since.drew ?_))
        have hsv : Since W2 v9 := Since.step hS2 hSv
        have hSa : Since wr (v9.alloc (.cells #[.slice s1 t1 u1, .slice s2 t2 u2, .slice s3 t3 u3] 27)) := Since.alloc hSv _
        have hsa : Since W2 (v9.alloc (.cells #[.slice s1 t1 u1, .slice s2 t2 u2, .slice s3 t3 u3] 27)) := Since.step hS2 hSa
        have HOA := Lib.hid (HOR.out.frame hSa)
        have HPT := Lib.hid (clone_part HOR.out hS2 (.cells #[.slice s1 t1 u1, .slice s2 t2 u2, .slice s3 t3 u3] 27) hT9.out)
        have hw2 := Since.cell hSv x2
        have hxa := Since.cell hSa x2
        have hxad := Since.cell (Since.drew hSa) x2
        have HCL := Lib.hid (one_cells RTh v9 ⟨s1, t1, u1, s2, t2, u2, s3, t3, u3⟩ #[.slice s1 t1 u1, .slice s2 t2 u2, .slice s3 t3 u3] 27 rfl)
        have hzB : W2.heap.size ≤ (v9.alloc (.cells #[.slice s1 t1 u1, .slice s2 t2 u2, .slice s3 t3 u3] 27)).heap.size := since_size hsa
        have hsad := Since.drew hsa
        try go_wp2_with fail
        refine hK.out _ _ ?_ (fun hHeld => ?_)
        · (with_reducible refine ⟨Since.cell ?_ o0, Since.cell ?_ o1, Since.cell ?_ o2, ?_⟩) <;> (repeat (first | with_reducible assumption | with_reducible exact Since.refl _ | with_reducible refine Since.alloc ?_ _ | with_reducible refine Since.drew ?_))
        clear hK K
        try simp only [Act.put, List.setIfInBounds_toArray, List.set_cons_zero, List.set_cons_succ]
        refine wpAnyH_ready (rs := [4]) (by kernel_rfl) (by simp) ?_
        refine AllReadyH.cons (o := ⟨some 24, Op.buildSlice 23 1 #[(0, Operand.tmp 23)], 23, _, _, none⟩) rfl (fun K hK => ?_) AllReadyH.nil
        go_simp
        try go_wp2_with fail
        refine hK.out _ _ ?_ (fun hHeld => ?_)
        · (with_reducible refine ⟨Since.cell ?_ o0, Since.cell ?_ o1, Since.cell ?_ o2, ?_⟩) <;> (repeat (first | with_reducible assumption | with_reducible exact Since.refl _ | with_reducible refine Since.alloc ?_ _ | with_reducible refine Since.drew ?_))
        clear hK K
        try simp only [Act.put, List.setIfInBounds_toArray, List.set_cons_zero, List.set_cons_succ]
        refine wpAnyH_ready (rs := [5]) (by kernel_rfl) (by simp) ?_
        refine AllReadyH.cons (o := ⟨some 25, Op.call { callee := Callee.builtin Builtin.append, args := #[Operand.tmp 21, Operand.tmp 24], argTypes := #[23, 23] }, 23, _, _, none⟩) rfl (fun K hK => ?_) AllReadyH.nil
        refine wp_row1_f (.tmp 21) (.tmp 24) 23 rfl RTh 27 72 _ Tryz.underlying23 Tryz.infoTh rfl (by decide) W2.heap.size (.slice b3 m3 d3) rs [⟨s1, t1, u1, s2, t2, u2, s3, t3, u3⟩] v9.heap.size 1 1 rfl rfl rfl HCL.out HOA.out.oc hzB hl1 ?_
        intro ak lk ck wn hnn hOn hBn hPn
        obtain ⟨y0, y1, y2, g0, g1, g2, -⟩ := (HOA.out.there3 hPn.out).open3
        have hsn : Since W2 wn := Below.trans hsa hBn.out
        have ho0 := cell_pf hPn.out hM5 (Since.cell hSa o0)
        have ho1 := cell_pf hPn.out hM5 (Since.cell hSa o1)
        have ho2 := cell_pf hPn.out hM5 (Since.cell hSa o2)
        refine hK.out _ _ ?_ (fun hHeld => ?_)
        · first | exact ⟨ho0, ho1, ho2, hsn⟩ | exact ⟨ho0, ho1, ho2, Since.drew hsn⟩
        clear hK K
        try simp only [Act.put, List.setIfInBounds_toArray, List.set_cons_zero, List.set_cons_succ]
        refine wpAnyH_take (i := 6) (oi := ⟨some 26, Op.fieldAddr 27 (Operand.tmp 3) 2, 0, _, _, none⟩) (v := ?_) rfl (by kernel_rfl) (by kernel_rfl) (by kernel_rfl) (fun _ _ _ h => h) (Or.inl ⟨by rfl, ?_⟩) (by assumption) ?_
        rotate_left 1
        · (intro w hSw; (try dsimp only at hSw); go_simp; first | done | with_reducible rfl)
        try simp only [Act.put, List.setIfInBounds_toArray, List.set_cons_zero, List.set_cons_succ]
        refine wpAnyH_ready (rs := [7]) (by kernel_rfl) (by simp) ?_
        refine AllReadyH.cons (o := ⟨none, Op.store 23 (Operand.tmp 26) (Operand.tmp 25), 0, _, _, none⟩) rfl (fun K hK => ?_) AllReadyH.nil
        go_simp
        go_wp2_with fail
        have hsp : Since W2 (wn.setCell ⟨NB, 2, none⟩ (.slice ak lk ck)) := since_set hsn HOA.out.hB _ _
        refine hK.out _ _ ?_ (fun hHeld => ?_)
        · first | exact ⟨cell_set hM6 ho0, cell_set hM6 ho1, cell_set hM6 ho2, hsp⟩ | exact ⟨cell_set hM6 ho0, cell_set hM6 ho1, cell_set hM6 ho2, Since.drew hsp⟩
        clear hK K
        try simp only [Act.put, List.setIfInBounds_toArray, List.set_cons_zero, List.set_cons_succ]
        refine wpAnyH_done (by kernel_rfl) ?_ _
        refine NoPanic.normal ?_
        have HL9 := Lib.hid (HOA.out.lie.snoc (r := ⟨s1, t1, u1, s2, t2, u2, s3, t3, u3⟩) (HPT.out))
        have HO7 : Hid (OB (fun k => False ∨ W2.heap.size ≤ k) W2.heap.size NB (wn.setCell ⟨NB, 2, none⟩ (.slice ak lk ck)) (.slice b1 m1 d1) (.slice b2 m2 d2) (.slice ak lk ck) cs vs (rs ++ [⟨s1, t1, u1, s2, t2, u2, s3, t3, u3⟩]) (ps.take (k + 1))) := Lib.hid (by rw [HST.out, ← HP9.out]; exact HOA.out.set3 hPn.out hOn.out HL9.out)
        have HS7 : Hid (Since W2 (wn.setCell ⟨NB, 2, none⟩ (.slice ak lk ck))) := Lib.hid hsp
        go_wp2
        go_roundw
        case rel => exact ⟨k + 1, ak, lk, ck, _, by omega, by go_num, HO7, HS7⟩
        case measure => simp [intOf] <;> omega
      · go_simp
        refine (KQ.out _ (by (repeat (first | with_reducible assumption | with_reducible exact Since.refl _ | with_reducible refine Since.alloc ?_ _ | with_reducible refine Since.drew ?_)))).mono ?_
        rintro e v9 ⟨u9, ⟨s1, t1, u1, s2, t2, u2, s3, t3, u3⟩, rfl, hT9, HP9, hB9⟩
        try simp only
        have hSv : Since wr v9 := by (with_reducible refine Since.step ?_ hB9.out); (repeat (first | with_reducible assumption | with_reducible exact Since.refl _ | with_reducible refine Since.alloc ?_ _ | with_reducible refine Since.drew ?_))
        have hsv : Since W2 v9 := Since.step hS2 hSv
        have hSa : Since wr (v9.alloc (.cells #[.slice s1 t1 u1, .slice s2 t2 u2, .slice s3 t3 u3] 27)) := Since.alloc hSv _
        have hsa : Since W2 (v9.alloc (.cells #[.slice s1 t1 u1, .slice s2 t2 u2, .slice s3 t3 u3] 27)) := Since.step hS2 hSa
        have HOA := Lib.hid (HOR.out.frame hSa)
        have HPT := Lib.hid (clone_part HOR.out hS2 (.cells #[.slice s1 t1 u1, .slice s2 t2 u2, .slice s3 t3 u3] 27) hT9.out)
        have hw2 := Since.cell hSv x2
        have hxa := Since.cell hSa x2
        have hxad := Since.cell (Since.drew hSa) x2
        have HCL := Lib.hid (one_cells RTh v9 ⟨s1, t1, u1, s2, t2, u2, s3, t3, u3⟩ #[.slice s1 t1 u1, .slice s2 t2 u2, .slice s3 t3 u3] 27 rfl)
        have hzB : W2.heap.size ≤ (v9.alloc (.cells #[.slice s1 t1 u1, .slice s2 t2 u2, .slice s3 t3 u3] 27)).heap.size := since_size hsa
        have hsad := Since.drew hsa
        try go_wp2_with fail
        refine hK.out _ _ ?_ (fun hHeld => ?_)
        · (with_reducible refine ⟨Since.cell ?_ o0, Since.cell ?_ o1, Since.cell ?_ o2, ?_⟩) <;> (repeat (first | with_reducible assumption | with_reducible exact Since.refl _ | with_reducible refine Since.alloc ?_ _ | with_reducible refine Since.drew ?_))
        clear hK K
        try simp only [Act.put, List.setIfInBounds_toArray, List.set_cons_zero, List.set_cons_succ]
        refine wpAnyH_ready (rs := [1, 4]) (by kernel_rfl) (by simp) ?_
        refine AllReadyH.cons (o := ⟨some 21, Op.load 23 (Operand.tmp 20), 23, _, _, none⟩) rfl (fun K hK => ?_) (AllReadyH.cons (o := ⟨some 24, Op.buildSlice 23 1 #[(0, Operand.tmp 23)], 23, _, _, none⟩) rfl (fun K hK => ?_) AllReadyH.nil)
        · go_simp
          try go_wp2_with fail
          refine hK.out _ _ ?_ (fun hHeld => ?_)
          · (with_reducible refine ⟨Since.cell ?_ o0, Since.cell ?_ o1, Since.cell ?_ o2, ?_⟩) <;> (repeat (first | with_reducible assumption | with_reducible exact Since.refl _ | with_reducible refine Since.alloc ?_ _ | with_reducible refine Since.drew ?_))
          clear hK K
          try simp only [Act.put, List.setIfInBounds_toArray, List.set_cons_zero, List.set_cons_succ]
          refine wpAnyH_ready (rs := [4]) (by kernel_rfl) (by simp) ?_
          refine AllReadyH.cons (o := ⟨some 24, Op.buildSlice 23 1 #[(0, Operand.tmp 23)], 23, _, _, none⟩) rfl (fun K hK => ?_) AllReadyH.nil
          go_simp
          try go_wp2_with fail
          refine hK.out _ _ ?_ (fun hHeld => ?_)
          · (with_reducible refine ⟨Since.cell ?_ o0, Since.cell ?_ o1, Since.cell ?_ o2, ?_⟩) <;> (repeat (first | with_reducible assumption | with_reducible exact Since.refl _ | with_reducible refine Since.alloc ?_ _ | with_reducible refine Since.drew ?_))
          clear hK K
          try simp only [Act.put, List.setIfInBounds_toArray, List.set_cons_zero, List.set_cons_succ]
          refine wpAnyH_ready (rs := [5]) (by kernel_rfl) (by simp) ?_
          refine AllReadyH.cons (o := ⟨some 25, Op.call { callee := Callee.builtin Builtin.append, args := #[Operand.tmp 21, Operand.tmp 24], argTypes := #[23, 23] }, 23, _, _, none⟩) rfl (fun K hK => ?_) AllReadyH.nil
          refine wp_row1_f (.tmp 21) (.tmp 24) 23 rfl RTh 27 72 _ Tryz.underlying23 Tryz.infoTh rfl (by decide) W2.heap.size (.slice b3 m3 d3) rs [⟨s1, t1, u1, s2, t2, u2, s3, t3, u3⟩] v9.heap.size 1 1 rfl rfl rfl HCL.out HOA.out.oc hzB hl1 ?_
          intro ak lk ck wn hnn hOn hBn hPn
          obtain ⟨y0, y1, y2, g0, g1, g2, -⟩ := (HOA.out.there3 hPn.out).open3
          have hsn : Since W2 wn := Below.trans hsa hBn.out
          have ho0 := cell_pf hPn.out hM5 (Since.cell hSa o0)
          have ho1 := cell_pf hPn.out hM5 (Since.cell hSa o1)
          have ho2 := cell_pf hPn.out hM5 (Since.cell hSa o2)
          refine hK.out _ _ ?_ (fun hHeld => ?_)
          · first | exact ⟨ho0, ho1, ho2, hsn⟩ | exact ⟨ho0, ho1, ho2, Since.drew hsn⟩
          clear hK K
          try simp only [Act.put, List.setIfInBounds_toArray, List.set_cons_zero, List.set_cons_succ]
          refine wpAnyH_take (i := 6) (oi := ⟨some 26, Op.fieldAddr 27 (Operand.tmp 3) 2, 0, _, _, none⟩) (v := ?_) rfl (by kernel_rfl) (by kernel_rfl) (by kernel_rfl) (fun _ _ _ h => h) (Or.inl ⟨by rfl, ?_⟩) (by assumption) ?_
          rotate_left 1
          · (intro w hSw; (try dsimp only at hSw); go_simp; first | done | with_reducible rfl)
          try simp only [Act.put, List.setIfInBounds_toArray, List.set_cons_zero, List.set_cons_succ]
          refine wpAnyH_ready (rs := [7]) (by kernel_rfl) (by simp) ?_
          refine AllReadyH.cons (o := ⟨none, Op.store 23 (Operand.tmp 26) (Operand.tmp 25), 0, _, _, none⟩) rfl (fun K hK => ?_) AllReadyH.nil
          go_simp
          go_wp2_with fail
          have hsp : Since W2 (wn.setCell ⟨NB, 2, none⟩ (.slice ak lk ck)) := since_set hsn HOA.out.hB _ _
          refine hK.out _ _ ?_ (fun hHeld => ?_)
          · first | exact ⟨cell_set hM6 ho0, cell_set hM6 ho1, cell_set hM6 ho2, hsp⟩ | exact ⟨cell_set hM6 ho0, cell_set hM6 ho1, cell_set hM6 ho2, Since.drew hsp⟩
          clear hK K
          try simp only [Act.put, List.setIfInBounds_toArray, List.set_cons_zero, List.set_cons_succ]
          refine wpAnyH_done (by kernel_rfl) ?_ _
          refine NoPanic.normal ?_
          have HL9 := Lib.hid (HOA.out.lie.snoc (r := ⟨s1, t1, u1, s2, t2, u2, s3, t3, u3⟩) (HPT.out))
          have HO7 : Hid (OB (fun k => False ∨ W2.heap.size ≤ k) W2.heap.size NB (wn.setCell ⟨NB, 2, none⟩ (.slice ak lk ck)) (.slice b1 m1 d1) (.slice b2 m2 d2) (.slice ak lk ck) cs vs (rs ++ [⟨s1, t1, u1, s2, t2, u2, s3, t3, u3⟩]) (ps.take (k + 1))) := Lib.hid (by rw [HST.out, ← HP9.out]; exact HOA.out.set3 hPn.out hOn.out HL9.out)
          have HS7 : Hid (Since W2 (wn.setCell ⟨NB, 2, none⟩ (.slice ak lk ck))) := Lib.hid hsp
          go_wp2
          go_roundw
          case rel => exact ⟨k + 1, ak, lk, ck, _, by omega, by go_num, HO7, HS7⟩
          case measure => simp [intOf] <;> omega
        · go_simp
          try go_wp2_with fail
          refine hK.out _ _ ?_ (fun hHeld => ?_)
          · (with_reducible refine ⟨Since.cell ?_ o0, Since.cell ?_ o1, Since.cell ?_ o2, ?_⟩) <;> (repeat (first | with_reducible assumption | with_reducible exact Since.refl _ | with_reducible refine Since.alloc ?_ _ | with_reducible refine Since.drew ?_))
          clear hK K
          try simp only [Act.put, List.setIfInBounds_toArray, List.set_cons_zero, List.set_cons_succ]
          refine wpAnyH_ready (rs := [1]) (by kernel_rfl) (by simp) ?_
          refine AllReadyH.cons (o := ⟨some 21, Op.load 23 (Operand.tmp 20), 23, _, _, none⟩) rfl (fun K hK => ?_) AllReadyH.nil
          go_simp
          try go_wp2_with fail
          refine hK.out _ _ ?_ (fun hHeld => ?_)
          · (with_reducible refine ⟨Since.cell ?_ o0, Since.cell ?_ o1, Since.cell ?_ o2, ?_⟩) <;> (repeat (first | with_reducible assumption | with_reducible exact Since.refl _ | with_reducible refine Since.alloc ?_ _ | with_reducible refine Since.drew ?_))
          clear hK K
          try simp only [Act.put, List.setIfInBounds_toArray, List.set_cons_zero, List.set_cons_succ]
          refine wpAnyH_ready (rs := [5]) (by kernel_rfl) (by simp) ?_
          refine AllReadyH.cons (o := ⟨some 25, Op.call { callee := Callee.builtin Builtin.append, args := #[Operand.tmp 21, Operand.tmp 24], argTypes := #[23, 23] }, 23, _, _, none⟩) rfl (fun K hK => ?_) AllReadyH.nil
          refine wp_row1_f (.tmp 21) (.tmp 24) 23 rfl RTh 27 72 _ Tryz.underlying23 Tryz.infoTh rfl (by decide) W2.heap.size (.slice b3 m3 d3) rs [⟨s1, t1, u1, s2, t2, u2, s3, t3, u3⟩] v9.heap.size 1 1 rfl rfl rfl HCL.out HOA.out.oc hzB hl1 ?_
          intro ak lk ck wn hnn hOn hBn hPn
          obtain ⟨y0, y1, y2, g0, g1, g2, -⟩ := (HOA.out.there3 hPn.out).open3
          have hsn : Since W2 wn := Below.trans hsa hBn.out
          have ho0 := cell_pf hPn.out hM5 (Since.cell hSa o0)
          have ho1 := cell_pf hPn.out hM5 (Since.cell hSa o1)
          have ho2 := cell_pf hPn.out hM5 (Since.cell hSa o2)
          refine hK.out _ _ ?_ (fun hHeld => ?_)
          · first | exact ⟨ho0, ho1, ho2, hsn⟩ | exact ⟨ho0, ho1, ho2, Since.drew hsn⟩
          clear hK K
          try simp only [Act.put, List.setIfInBounds_toArray, List.set_cons_zero, List.set_cons_succ]
          refine wpAnyH_take (i := 6) (oi := ⟨some 26, Op.fieldAddr 27 (Operand.tmp 3) 2, 0, _, _, none⟩) (v := ?_) rfl (by kernel_rfl) (by kernel_rfl) (by kernel_rfl) (fun _ _ _ h => h) (Or.inl ⟨by rfl, ?_⟩) (by assumption) ?_
          rotate_left 1
          · (intro w hSw; (try dsimp only at hSw); go_simp; first | done | with_reducible rfl)
          try simp only [Act.put, List.setIfInBounds_toArray, List.set_cons_zero, List.set_cons_succ]
          refine wpAnyH_ready (rs := [7]) (by kernel_rfl) (by simp) ?_
          refine AllReadyH.cons (o := ⟨none, Op.store 23 (Operand.tmp 26) (Operand.tmp 25), 0, _, _, none⟩) rfl (fun K hK => ?_) AllReadyH.nil
          go_simp
          go_wp2_with fail
          have hsp : Since W2 (wn.setCell ⟨NB, 2, none⟩ (.slice ak lk ck)) := since_set hsn HOA.out.hB _ _
          refine hK.out _ _ ?_ (fun hHeld => ?_)
          · first | exact ⟨cell_set hM6 ho0, cell_set hM6 ho1, cell_set hM6 ho2, hsp⟩ | exact ⟨cell_set hM6 ho0, cell_set hM6 ho1, cell_set hM6 ho2, Since.drew hsp⟩
          clear hK K
          try simp only [Act.put, List.setIfInBounds_toArray, List.set_cons_zero, List.set_cons_succ]
          refine wpAnyH_done (by kernel_rfl) ?_ _
          refine NoPanic.normal ?_
          have HL9 := Lib.hid (HOA.out.lie.snoc (r := ⟨s1, t1, u1, s2, t2, u2, s3, t3, u3⟩) (HPT.out))
          have HO7 : Hid (OB (fun k => False ∨ W2.heap.size ≤ k) W2.heap.size NB (wn.setCell ⟨NB, 2, none⟩ (.slice ak lk ck)) (.slice b1 m1 d1) (.slice b2 m2 d2) (.slice ak lk ck) cs vs (rs ++ [⟨s1, t1, u1, s2, t2, u2, s3, t3, u3⟩]) (ps.take (k + 1))) := Lib.hid (by rw [HST.out, ← HP9.out]; exact HOA.out.set3 hPn.out hOn.out HL9.out)
          have HS7 : Hid (Since W2 (wn.setCell ⟨NB, 2, none⟩ (.slice ak lk ck))) := Lib.hid hsp
          go_wp2
          go_roundw
          case rel => exact ⟨k + 1, ak, lk, ck, _, by omega, by go_num, HO7, HS7⟩
          case measure => simp [intOf] <;> omega
    · have i1 : ¬ (k : Int) < n3 := by omega
      have hk1 : ps.take k = ps := List.take_of_length_le (by rw [HN3.out]; omega)
      have HO7 := Lib.hid hO.out
      rw [hk1] at HO7
      obtain ⟨z0, z1, z2, zf0, zf1, zf2, -⟩ := (HR.out.keep hS.out).open3
      obtain ⟨x0, x1, x2, f0, f1, f2, -⟩ := HO7.out.box.open3
      have HF1 := Lib.hid (HO7.out.putlow (N1 := N1) (by have := HSZ.out; omega) (.slice b1 m1 d1) (.slice b2 m2 d2) (.slice b3 m3 d3))
      have HF2 := Lib.hid (put3_below (HBS.out _ hS.out) (N := N1) (by have := HSZ.out; omega) (.slice b1 m1 d1) (.slice b2 m2 d2) (.slice b3 m3 d3))
      unfold put3 at HF1 HF2
      have HF3 : Hid (W.heap.size ≤ W2.heap.size) := Lib.hid HSZ.out.2.1
      clear hO HO7 hk1 HBS
      go_wp2
      exact bodyPost_ret (v := .agg #[.slice b1 m1 d1, .slice b2 m2 d2, .slice b3 m3 d3]) (by simp [results, Tryz.results31, go_sem, z0, z1, z2]) rfl (HFO.out ⟨b1, m1, d1, b2, m2, d2, b3, m3, d3⟩ _ _ _ _ HF1 HF3 HF2)

theorem clone_all : ∀ M : Nat, CloneK M
  | 0 => fun u hu => by have := u.size_pos; omega
  | M + 1 => clone_step M (Lib.hid (clone_all M))

end Go.Proofs.YtelhpndlejommaaGreat
